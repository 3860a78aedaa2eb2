package reason

import "statute/api"

// none is no literal.
const none = 0

// literal with what has been shown of it so far.
type literal struct {
	itself      int
	opposite    *literal
	rules       []*standing // of the rules for it
	within      []*standing // of the rules in whose body it is, as often as it is there
	sure, holds int         // api's: Open, Yes, No
}

// standing of a rule, by what has been shown of its body so far. It is kept, so that no body is gone through again and again.
type standing struct {
	kind           int
	body           []int
	above          []*standing // of the rules for its head's opposite that are above it
	unsure, unheld int         // how many of its body are not shown to be SURE, to HOLD
	notSure, fails int         // the one of its body that was first shown to be NOT SURE, to FAIL
}

// literalsOf a theory, each at its place; nothing has been shown.
func literalsOf(t Theory) []literal {
	literals := make([]literal, 2*t.Names)
	for name := range t.Names {
		yes, no := &literals[Place(name+1)], &literals[Place(-name-1)]
		yes.itself, no.itself = name+1, -name-1
		yes.opposite, no.opposite = no, yes
	}
	rules := make([]standing, len(t.Rules))
	for i, r := range t.Rules {
		rules[i] = standing{kind: r.Kind, body: r.Body, unsure: len(r.Body), unheld: len(r.Body)}
		head := &literals[Place(r.Head)]
		head.rules = append(head.rules, &rules[i])
		for _, part := range r.Body {
			q := &literals[Place(part)]
			q.within = append(q.within, &rules[i])
		}
	}
	for _, pair := range t.Over {
		above, below := pair[0], pair[1]
		if t.Rules[above].Head == -t.Rules[below].Head {
			rules[below].above = append(rules[below].above, &rules[above])
		}
	}
	return literals
}

// shown is what is known of a literal: whether it is SURE, or else whether it HOLDS.
func (q *literal) shown(sure bool) int {
	if sure {
		return q.sure
	}
	return q.holds
}

func (q *literal) isSettled(sure bool) bool { return q.shown(sure) != api.Open }

func (q *literal) has(c Claim) bool { return q.shown(c.Sure) == c.answer() }

// take what has been shown of a literal.
func (q *literal) take(c Claim) {
	if c.Sure {
		q.sure = c.answer()
	} else {
		q.holds = c.answer()
	}
	for _, r := range q.within {
		r.take(c)
	}
}

// take what has been shown of one of the body.
func (r *standing) take(c Claim) {
	switch {
	case c.Sure && c.Says:
		r.unsure--
	case c.Sure && r.notSure == none:
		r.notSure = c.Literal
	case !c.Sure && c.Says:
		r.unheld--
	case !c.Sure && r.fails == none:
		r.fails = c.Literal
	}
}
