package reason

import (
	"slices"

	"statute/api"
)

// literal with what has been shown of it so far.
type literal struct {
	opposite    *literal
	rules       []*standing // of the rules for it
	within      []*standing // of the rules in whose body it is, as often as it is there
	sure, holds int         // api's: Open, Yes, No
}

// standing of a rule, by what has been shown of its body so far. It is kept, so that no body is gone through again and again.
type standing struct {
	kind           int
	above          []*standing // of the rules for its head's opposite that are above it
	unsure, unheld int         // how many of its body are not shown to be SURE, to HOLD
	notSure, fails bool        // whether one of its body is NOT SURE, FAILS
}

// literalsOf a theory, each at its place; nothing has been shown.
func literalsOf(t Theory) []literal {
	literals := make([]literal, 2*t.Names)
	for name := range t.Names {
		yes, no := &literals[place(name+1)], &literals[place(-name-1)]
		yes.opposite, no.opposite = no, yes
	}
	rules := make([]standing, len(t.Rules))
	for i, r := range t.Rules {
		rules[i] = standing{kind: r.Kind, unsure: len(r.Body), unheld: len(r.Body)}
		head := &literals[place(r.Head)]
		head.rules = append(head.rules, &rules[i])
		for _, part := range r.Body {
			q := &literals[place(part)]
			q.within = append(q.within, &rules[i])
		}
	}
	for _, pair := range t.Over {
		above, below := pair[0], pair[1]
		if t.Rules[above].Head == -t.Rules[below].Head {
			rules[below].above = append(rules[below].above, &rules[above])
		}
	}
	return literals
}

func (q *literal) isSettled(sure bool) bool {
	if sure {
		return q.sure != api.Open
	}
	return q.holds != api.Open
}

// take what has been shown of a literal.
func (q *literal) take(c claim) {
	if c.sure {
		q.sure = c.answer()
	} else {
		q.holds = c.answer()
	}
	for _, r := range q.within {
		r.take(c)
	}
}

// take what has been shown of one of the body.
func (r *standing) take(c claim) {
	switch {
	case c.sure && c.says:
		r.unsure--
	case c.sure:
		r.notSure = true
	case c.says:
		r.unheld--
	default:
		r.fails = true
	}
}

// follows tells whether a claim of the literal follows from what has been shown so far.
func (q *literal) follows(c claim) bool {
	switch {
	case c.sure && c.says:
		return q.followsSure()
	case c.sure:
		return q.followsNotSure()
	case c.says:
		return q.followsHolds()
	}
	return q.followsFails()
}

func (q *literal) followsSure() bool {
	return slices.ContainsFunc(q.rules, func(r *standing) bool { return r.kind == api.Strict && r.unsure == 0 })
}

func (q *literal) followsNotSure() bool {
	return !slices.ContainsFunc(q.rules, func(r *standing) bool { return r.kind == api.Strict && !r.notSure })
}

func (q *literal) followsHolds() bool {
	if q.sure == api.Yes {
		return true
	}
	inTheWay := func(r *standing) bool { return !r.fails && !slices.ContainsFunc(r.above, carries) }
	return q.opposite.sure == api.No &&
		slices.ContainsFunc(q.rules, carries) &&
		!slices.ContainsFunc(q.opposite.rules, inTheWay)
}

func (q *literal) followsFails() bool {
	if q.sure != api.No {
		return false
	}
	stops := func(r *standing) bool { return r.unheld == 0 && !slices.ContainsFunc(r.above, mayCarry) }
	return q.opposite.sure == api.Yes ||
		!slices.ContainsFunc(q.rules, mayCarry) ||
		slices.ContainsFunc(q.opposite.rules, stops)
}

// carries tells whether a rule can make its head hold, and all of its body does.
func carries(r *standing) bool { return r.kind != api.Defeater && r.unheld == 0 }

// mayCarry tells whether a rule can make its head hold, and nothing of its body is shown to fail.
func mayCarry(r *standing) bool { return r.kind != api.Defeater && !r.fails }
