package terms

import (
	"slices"

	"statute/api"
)

// reader takes the tokens of a line, by the rules of the grammar: each throws what is wrong.
type reader struct {
	tokens []token // that are left; the last one is the line's end
	nest   int     // how many conditions and sums are open around the first one
}

// wrong throws an error at the first token.
func (r *reader) wrong(err error) { throw(&api.Fault{At: r.tokens[0].at, Err: err}) }

// is tells whether the first token is a word of the grammar, or a sign.
func (r *reader) is(text string) bool { return r.tokens[0].text == text }

// skip takes the first token, which is not the end.
func (r *reader) skip() string {
	text := r.tokens[0].text
	r.tokens = r.tokens[1:]
	return text
}

// take takes a word of the grammar or a sign, if it stands there.
func (r *reader) take(text string) bool {
	if !r.is(text) {
		return false
	}
	r.skip()
	return true
}

// need takes what must stand there.
func (r *reader) need(text string) {
	if !r.take(text) {
		r.wrong(api.ErrText)
	}
}

// oneOf takes one of some words, and tells its number.
func (r *reader) oneOf(words []string) int {
	n := r.perhaps(words, -1)
	if n < 0 {
		r.wrong(api.ErrText)
	}
	return n
}

// perhaps takes one of some words, if one stands there, and tells its number; else another one.
func (r *reader) perhaps(words []string, other int) int {
	if r.tokens[0].kind != aWord {
		return other
	}
	n := slices.Index(words, r.tokens[0].text)
	if n < 0 {
		return other
	}
	r.skip()
	return n
}

// name takes a name.
func (r *reader) name() string {
	t := r.tokens[0]
	if !t.isName() {
		r.wrong(api.ErrText)
	}
	if len(t.text) > api.MaxWord {
		r.wrong(api.ErrBound)
	}
	return r.skip()
}

// number takes a number, in hundredths.
func (r *reader) number() int {
	t := r.tokens[0]
	if t.kind != aNumber {
		r.wrong(api.ErrText)
	}
	if t.isLong() || t.hundredths() > api.MaxCoin {
		r.wrong(api.ErrBound)
	}
	r.skip()
	return t.hundredths()
}

// length takes the number of a term.
func (r *reader) length() int {
	t := r.tokens[0]
	if t.kind != aNumber || t.hasPoint() {
		r.wrong(api.ErrText)
	}
	if t.isLong() || worth(t.text) > api.MaxTerm {
		r.wrong(api.ErrBound)
	}
	return worth(r.skip())
}

func (r *reader) sentence() Sentence {
	s := Sentence{Kind: r.skip(), Name: r.name(), Way: api.HalfUp}
	if s.Kind == rule {
		s.Strength = r.perhaps(strengthsOfRules(), api.Defeasible)
	}
	r.need(colon)
	switch s.Kind {
	case define:
		s.If = r.either()
	case rule:
		r.rule(&s)
	case amount:
		r.amount(&s)
	case duty:
		r.duty(&s)
	}
	if r.tokens[0].kind != theEnd {
		r.wrong(api.ErrText)
	}
	return s
}

// rule takes what stands behind the colon of a rule.
func (r *reader) rule(s *Sentence) {
	r.literal(s)
	r.condition(s)
	for r.take(semicolon) {
		r.need(over)
		s.Over = append(s.Over, r.name())
		for r.take(comma) {
			s.Over = append(s.Over, r.name())
		}
	}
}

// amount takes what stands behind the colon of an amount.
func (r *reader) amount(s *Sentence) {
	s.Sum = r.sum()
	r.condition(s)
	if r.take(semicolon) {
		r.need(round)
		s.Way = r.oneOf(waysOfRounding())
	}
}

// duty takes what stands behind the colon of a duty.
func (r *reader) duty(s *Sentence) {
	r.literal(s)
	r.need(within)
	s.Term.N = r.length()
	s.Term.Unit = r.oneOf(unitsOfTerms())
	if r.take(comma) {
		s.Term.Roll = r.oneOf(rollsOfTerms())
	}
	if r.take(elseWord) {
		s.Else = r.name()
	}
}

func (r *reader) literal(s *Sentence) {
	s.Positive = !r.take(not)
	s.Head = r.name()
}

// condition takes a sentence's condition, if it has one.
func (r *reader) condition(s *Sentence) {
	if r.take(ifWord) {
		s.If = r.either()
	}
}
