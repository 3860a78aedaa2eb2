package day

import (
	"strconv"
	"strings"

	"statute/api"
)

// Term: how long, in which unit, and what becomes of a day that is off.
type Term struct{ N, Unit, Roll int }

// rollMark stands between a unit and a roll.
const rollMark = ", "

// Due: the day on which a term is over.
func (c *Calendar) Due(start int, t Term) (int, error) { return due(start, t, c.plan) }

// Plan is a calendar made ready for many terms: its holidays are sorted once, and not for each.
type Plan struct{ ready plan }

// Plan of a calendar, as it is now.
func (c *Calendar) Plan() *Plan { return &Plan{ready: c.plan()} }

// Due is what Due of the calendar is.
func (p *Plan) Due(start int, t Term) (int, error) {
	return due(start, t, func() plan { return p.ready })
}

// due does what Due does, by a plan that is asked for only where it counts.
func due(start int, t Term, ready func() plan) (int, error) {
	if t.N < 0 || t.N > api.MaxTerm {
		return 0, api.ErrBound
	}
	if !isUnit(t.Unit) || !isRoll(t.Roll) {
		return 0, api.ErrKind
	}
	if !IsDay(start) {
		return 0, api.ErrDay
	}
	end, err := termEnd(start, t, ready)
	if err != nil {
		return 0, err
	}
	return roll(end, t.Roll, ready)
}

// termEnd is the day a term's units behind start, not yet rolled; it may be no day.
func termEnd(start int, t Term, ready func() plan) (int, error) {
	switch t.Unit {
	case api.Working:
		return add(start, t.N, ready)
	case api.Weeks:
		return start + daysOfWeek*t.N, nil
	case api.Months:
		return Months(start, t.N)
	case api.Years:
		return Months(start, monthsOfYear*t.N)
	}
	return start + t.N, nil
}

// ReadTerm: a term of a text.
func ReadTerm(text string) (Term, error) {
	var t Term
	n, at := readLength(text)
	if at == 0 || !stands(text, at, ' ') {
		return Term{}, wrongText(at)
	}
	at++
	t.Unit = wordAhead(text[at:], api.Days, api.Years, unitWord)
	if t.Unit < 0 {
		return Term{}, wrongText(at)
	}
	at += len(unitWord(t.Unit))
	if at < len(text) {
		roll, end, err := readRoll(text, at)
		if err != nil {
			return Term{}, err
		}
		t.Roll, at = roll, end
	}
	if at < len(text) {
		return Term{}, wrongText(at)
	}
	if n > api.MaxTerm {
		return Term{}, &api.Fault{At: 0, Err: api.ErrBound}
	}
	t.N = n
	return t, nil
}

// readLength is the number with which a text begins, MaxTerm+1 for any that is too great, and where it is over.
func readLength(text string) (n, end int) {
	if stands(text, 0, '0') {
		return 0, 1
	}
	for end < len(text) && isDigit(text[end]) {
		n = min(n*10+int(text[end]-'0'), api.MaxTerm+1)
		end++
	}
	return n, end
}

// readRoll is the roll that stands at a place of a text, with its mark ahead, and where it is over.
func readRoll(text string, at int) (roll, end int, err error) {
	for i := range len(rollMark) {
		if !stands(text, at+i, rollMark[i]) {
			return 0, 0, wrongText(at + i)
		}
	}
	at += len(rollMark)
	roll = wordAhead(text[at:], api.Next, api.Before, rollWord)
	if roll < 0 {
		return 0, 0, wrongText(at)
	}
	return roll, at + len(rollWord(roll)), nil
}

// stands tells whether a byte stands at a place of a text.
func stands(text string, at int, b byte) bool {
	return at < len(text) && text[at] == b
}

// wordAhead is which of the kinds from first to last has the word with which a text begins; -1: none.
func wordAhead(text string, first, last int, word func(kind int) string) int {
	for kind := first; kind <= last; kind++ {
		if strings.HasPrefix(text, word(kind)) {
			return kind
		}
	}
	return -1
}

func wrongText(at int) error { return &api.Fault{At: at, Err: api.ErrText} }

// TermText: a term's text.
func TermText(t Term) string {
	if t.N < 0 || t.N > api.MaxTerm || !isUnit(t.Unit) || !isRoll(t.Roll) {
		return ""
	}
	text := strconv.Itoa(t.N) + " " + unitWord(t.Unit)
	if t.Roll != api.Stay {
		text += rollMark + rollWord(t.Roll)
	}
	return text
}

func isUnit(unit int) bool { return api.Days <= unit && unit <= api.Years }

// unitWord is how a unit is written.
func unitWord(unit int) string {
	switch unit {
	case api.Working:
		return "working days"
	case api.Weeks:
		return "weeks"
	case api.Months:
		return "months"
	case api.Years:
		return "years"
	}
	return "days"
}

// rollWord is how a roll other than Stay is written.
func rollWord(how int) string {
	if how == api.Next {
		return "next"
	}
	return "before"
}
