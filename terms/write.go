package terms

import (
	"slices"
	"strconv"
	"strings"

	"statute/api"
)

// writer collects the tokens of a line.
type writer struct {
	tokens []string
	size   int // bytes of the tokens
	deep   int // how many nodes are open
}

// put writes tokens. What has no room in a line is not written on: it may have no end.
func (w *writer) put(texts ...string) {
	for _, text := range texts {
		w.size += len(text)
		if text == "" || w.size > api.MaxLine {
			throw(api.ErrText)
		}
		w.tokens = append(w.tokens, text)
	}
}

// line is what was written, as easy to read as it can be in a line.
func (w *writer) line() string {
	var line string
	for _, apart := range []func(a, b string) bool{isEasierApart, areBothInner, wouldBeOne} {
		line = w.join(apart)
		if len(line) <= api.MaxLine {
			break
		}
	}
	return line
}

// join writes a blank between those tokens that are to be apart.
func (w *writer) join(apart func(a, b string) bool) string {
	var line strings.Builder
	ahead := ""
	for _, text := range w.tokens {
		if ahead != "" && apart(ahead, text) {
			line.WriteString(blank)
		}
		line.WriteString(text)
		ahead = text
	}
	return line.String()
}

// isEasierApart tells whether a blank between two tokens makes them easier to read.
func isEasierApart(a, b string) bool {
	switch b {
	case colon, comma, semicolon, closing, squareClosing, percent:
		return false
	case opening:
		return a != maximum && a != minimum && a != opening
	}
	return a != opening && a != squareOpening
}

// areBothInner tells whether both of two tokens are words or numbers.
func areBothInner(a, b string) bool { return isInner(a[0]) && isInner(b[0]) }

// wouldBeOne tells whether two tokens would be read as one without a blank.
func wouldBeOne(a, b string) bool { return isLetter(a[0]) && isInner(b[0]) }

func (w *writer) sentence(s Sentence) {
	w.put(s.Kind, s.Name)
	switch s.Kind {
	case define:
		w.put(colon)
		w.condition(s.If, orLevel)
	case rule:
		w.rule(s)
	case amount:
		w.amount(s)
	case duty:
		w.duty(s)
	default:
		throw(api.ErrText)
	}
}

func (w *writer) rule(s Sentence) {
	if s.Strength != api.Defeasible {
		w.put(wordOf(strengthsOfRules(), s.Strength))
	}
	w.put(colon)
	w.literal(s)
	w.perhapsIf(s.If)
	for i, name := range s.Over {
		if i == 0 {
			w.put(semicolon, over, name)
		} else {
			w.put(comma, name)
		}
	}
}

func (w *writer) amount(s Sentence) {
	w.put(colon)
	w.sum(s.Sum, sumLevel)
	w.perhapsIf(s.If)
	if s.Way != api.HalfUp {
		w.put(semicolon, round, wordOf(waysOfRounding(), s.Way))
	}
}

func (w *writer) duty(s Sentence) {
	w.put(colon)
	w.literal(s)
	w.put(within, strconv.Itoa(s.Term.N), wordOf(unitsOfTerms(), s.Term.Unit))
	if s.Term.Roll != api.Stay {
		w.put(comma, wordOf(rollsOfTerms(), s.Term.Roll))
	}
	if s.Else != "" {
		w.put(elseWord, s.Else)
	}
}

func (w *writer) literal(s Sentence) {
	if !s.Positive {
		w.put(not)
	}
	w.put(s.Head)
}

// perhapsIf writes a sentence's condition, if it has one.
func (w *writer) perhapsIf(n Node) {
	if n.Kind != "" {
		w.put(ifWord)
		w.condition(n, orLevel)
	}
}

// wordOf a number among words.
func wordOf(words []string, n int) string {
	if n < 0 || n >= len(words) {
		throw(api.ErrText)
	}
	return words[n]
}

// isSame tells whether two sentences are the same.
func isSame(a, b Sentence) bool {
	return a.Kind == b.Kind && a.Name == b.Name && a.Strength == b.Strength &&
		a.Positive == b.Positive && a.Head == b.Head &&
		isSameNode(a.If, b.If) && isSameNode(a.Sum, b.Sum) && a.Way == b.Way &&
		slices.Equal(a.Over, b.Over) && a.Term == b.Term && a.Else == b.Else
}

func isSameNode(a, b Node) bool {
	return a.Kind == b.Kind && a.Word == b.Word && a.N == b.N && slices.EqualFunc(a.Kids, b.Kids, isSameNode)
}
