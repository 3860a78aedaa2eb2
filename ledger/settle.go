package ledger

import (
	"slices"

	"statute/api"
	"statute/coin"
	"statute/day"
	"statute/sums"
)

const (
	maxPays  = 400   // of a claim
	fullRate = 10000 // of which all that comes is kept back, as far as there is debt
)

// What is posted when something is found anew, and to which accounts.
const (
	anewText = "anew"
	rights   = "rights"
	paid     = "paid"
	debts    = "debts"
)

// Claim: what is due, as it was known on a day.
type Claim struct {
	Day int
	Due []sums.Pay
}

// Settle claims that come one behind the other.
func Settle(l []Claim, rate int) ([]Entry, error) {
	if err := checkClaims(l, rate); err != nil {
		return nil, err
	}
	var entries []Entry
	var s standing
	for _, c := range l {
		lines, err := s.become(c.right(), rate)
		if err != nil {
			return nil, err
		}
		if len(lines) > 0 {
			entries = append(entries, Entry{Day: c.Day, Text: anewText, Lines: lines})
		}
	}
	return entries, nil
}

// checkClaims tells what is wrong with claims and a rate by themselves.
func checkClaims(l []Claim, rate int) error {
	hasTooMany := func(c Claim) bool { return len(c.Due) > maxPays }
	isNoTime := func(p sums.Pay) bool { return !day.IsDay(p.From) || !day.IsDay(p.To) || p.To <= p.From }
	isTooGreat := func(p sums.Pay) bool { return !coin.IsAmount(p.Cents) }
	switch {
	case len(l) > api.MaxSteps || slices.ContainsFunc(l, hasTooMany):
		return api.ErrBound
	case !areDaysRising(l) || hasPay(l, isNoTime):
		return api.ErrDay
	case hasPay(l, isTooGreat) || rate < 0 || rate > fullRate:
		return api.ErrCoin
	}
	return nil
}

// areDaysRising tells whether each claim has a day, behind that of the one ahead.
func areDaysRising(l []Claim) bool {
	ahead := 0
	for _, c := range l {
		if !day.IsDay(c.Day) || c.Day <= ahead {
			return false
		}
		ahead = c.Day
	}
	return true
}

// hasPay tells whether there is such a Pay in any of the claims.
func hasPay(l []Claim, is func(p sums.Pay) bool) bool {
	return slices.ContainsFunc(l, func(c Claim) bool { return slices.ContainsFunc(c.Due, is) })
}

// right is what those Pays of a claim come to whose time is over on its day.
func (c Claim) right() int {
	right := 0
	for _, p := range c.Due {
		if p.To <= c.Day {
			right += p.Cents
		}
	}
	return right
}

// standing is how somebody stands: what there is a right to, what was paid together, what is owed.
type standing struct{ right, paid, debt int }

// become makes the right another one, and tells the lines of the entry for that; none, if it is the same.
func (s *standing) become(right, rate int) ([]Line, error) {
	more := right - s.right
	if !coin.IsAmount(right) || !coin.IsAmount(more) {
		return nil, api.ErrCoin
	}
	// What is taken off the debt; what is less makes it greater by all of that.
	off := more
	if more > 0 {
		most, err := coin.Part(more, rate, api.Floor)
		if err != nil {
			return nil, err
		}
		off = min(s.debt, most)
	}
	s.right, s.paid, s.debt = right, s.paid+more-off, s.debt-off
	if !coin.IsAmount(s.paid) || !coin.IsAmount(s.debt) {
		return nil, api.ErrCoin
	}
	lines := []Line{{rights, -more}, {paid, more - off}, {debts, off}}
	return slices.DeleteFunc(lines, func(l Line) bool { return l.Cents == 0 }), nil
}
