package desk

import (
	"strconv"
	"strings"

	"statute/api"
	"statute/day"
	"statute/facts"
)

const (
	lineEnd = "\n"
	blank   = " "
)

// What entries begin with.
const (
	lawMark  = "law"
	actMark  = "act"
	factMark = "fact"
)

// factWords is how many words the first line of a fact has.
const factWords = 8

// sumDigits is how many digits a sum has, in sumBase.
const (
	sumDigits = 8
	sumBase   = 16
)

// A sum is below sumRing; by each byte it becomes so many times greater, but for whole rings.
const (
	sumFactor = 31
	sumRing   = 4294967291
)

// journal of what was done.
type journal struct {
	text []byte
	sum  int // of the last entry
}

// entry of a journal: its first line, without its end and its sum, and the lines behind it, as they stand there.
type entry struct{ head, lines string }

// write an entry more.
func (j *journal) write(e entry) {
	j.sum = e.sum(j.sum)
	j.text = append(j.text, e.head+blank+sumText(j.sum)+lineEnd+e.lines...)
}

// sum of an entry, from that of the entry ahead on.
func (e entry) sum(ahead int) int {
	s := ahead
	for _, b := range []byte(e.head + lineEnd + e.lines) {
		s = (s*sumFactor + int(b)) % sumRing
	}
	return s
}

func sumText(sum int) string {
	digits := strconv.FormatInt(int64(sum), sumBase)
	return strings.Repeat("0", sumDigits-len(digits)) + digits
}

func lawEntry(on int, text string) entry {
	return entry{lawMark + blank + day.Text(on), indented(text)}
}

func actEntry(text string) entry { return entry{actMark, indented(text)} }

func factEntry(x facts.Fact) entry {
	words := []string{factMark, strconv.Itoa(x.Who), x.Name}
	for _, n := range [...]int{x.Other, x.Value, x.From, x.To, x.Learnt} {
		words = append(words, strconv.Itoa(n))
	}
	return entry{head: strings.Join(words, blank)}
}

// indented is a text with each line behind a blank, and with an end of the last one.
func indented(text string) string {
	text = strings.TrimSuffix(text, lineEnd)
	return blank + strings.ReplaceAll(text, lineEnd, lineEnd+blank) + lineEnd
}

// text that was indented. It has an end of its last line only where that line is empty, as it must have had one there: elsewhere it might be one byte too long with it.
func (e entry) text() string {
	text := strings.ReplaceAll(lineEnd+e.lines, lineEnd+blank, lineEnd)
	text = strings.TrimPrefix(text, lineEnd)
	if strings.HasSuffix(text, lineEnd+lineEnd) {
		return text
	}
	return strings.TrimSuffix(text, lineEnd)
}

// Open the desk of a journal; how many entries were taken.
func Open(text string) (*Desk, int, error) {
	first, rest, ok := cut(text, 0)
	if !ok {
		return nil, 0, api.ErrText
	}
	d, ok := first.open()
	if !ok {
		return nil, 0, api.ErrText
	}
	taken := 1
	for {
		e, behind, ok := cut(rest, d.journal.sum)
		if !ok || !d.take(e) {
			return d, taken, nil
		}
		rest = behind
		taken++
	}
}

// cut off the first entry of a text; false: its last line has no end, or its sum is not the one that comes behind the sum ahead.
func cut(text string, ahead int) (e entry, rest string, ok bool) {
	whole, rest := cutWhole(text)
	head, lines, _ := strings.Cut(whole, lineEnd)
	i := strings.LastIndex(head, blank)
	if i < 0 {
		return entry{}, "", false
	}
	e = entry{head[:i], lines}
	return e, rest, head[i+len(blank):] == sumText(e.sum(ahead))
}

// cutWhole cuts off a line, and the lines behind it that begin with a blank; nothing, if the last of them has no end.
func cutWhole(text string) (whole, rest string) {
	end := 0
	for {
		n := strings.Index(text[end:], lineEnd)
		if n < 0 {
			return "", text
		}
		end += n + len(lineEnd)
		if !strings.HasPrefix(text[end:], blank) {
			return text[:end], text[end:]
		}
	}
}

// open the desk of a first entry.
func (e entry) open() (*Desk, bool) {
	written, ok := strings.CutPrefix(e.head, lawMark+blank)
	if !ok {
		return nil, false
	}
	on, err := day.Read(written)
	if err != nil {
		return nil, false
	}
	d, err := New(e.text(), on)
	return d, err == nil
}

// take what a later entry says; false: it says nothing, or that can't be done.
func (d *Desk) take(e entry) bool {
	if e.head == actMark {
		return d.Pass(e.text()) == nil
	}
	x, ok := e.fact()
	return ok && d.Add(x) == nil
}

// fact that an entry tells; false: it does not tell one as it would be written.
func (e entry) fact() (facts.Fact, bool) {
	words := strings.Split(e.head, blank)
	if len(words) != factWords {
		return facts.Fact{}, false
	}
	x := facts.Fact{
		Who: number(words[1]), Name: words[2], Other: number(words[3]), Value: number(words[4]),
		From: number(words[5]), To: number(words[6]), Learnt: number(words[7]),
	}
	return x, factEntry(x) == e
}

// number that a word tells; of what is none any, which is then written otherwise.
func number(word string) int {
	n, _ := strconv.Atoi(word)
	return n
}
