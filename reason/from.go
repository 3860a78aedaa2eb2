package reason

import (
	"slices"

	"statute/api"
)

// from tells from which claims, of those that have been shown so far, one of the literal follows; false: from none.
func (q *literal) from(c Claim) ([]Claim, bool) {
	switch {
	case c.Sure && c.Says:
		return q.whySure()
	case c.Sure:
		return q.whyNotSure()
	case c.Says:
		return q.whyHolds()
	}
	return q.whyFails()
}

func (q *literal) whySure() ([]Claim, bool) {
	i := slices.IndexFunc(q.rules, func(r *standing) bool { return r.kind == api.Strict && r.unsure == 0 })
	if i < 0 {
		return nil, false
	}
	return q.rules[i].all(true), true
}

func (q *literal) whyNotSure() ([]Claim, bool) {
	var from []Claim
	for _, r := range q.rules {
		if r.kind != api.Strict {
			continue
		}
		if r.notSure == none {
			return nil, false
		}
		from = append(from, Claim{true, false, r.notSure})
	}
	return from, true
}

func (q *literal) whyHolds() ([]Claim, bool) {
	if q.sure == api.Yes {
		return []Claim{{true, true, q.itself}}, true
	}
	i := slices.IndexFunc(q.rules, carries)
	if i < 0 || q.opposite.sure != api.No {
		return nil, false
	}
	from := append(q.rules[i].all(false), Claim{true, false, -q.itself})
	for _, r := range q.opposite.rules {
		above := slices.IndexFunc(r.above, carries)
		switch {
		case r.fails != none:
			from = append(from, Claim{false, false, r.fails})
		case above >= 0:
			from = append(from, r.above[above].all(false)...)
		default:
			return nil, false
		}
	}
	return from, true
}

func (q *literal) whyFails() ([]Claim, bool) {
	if q.sure != api.No {
		return nil, false
	}
	from := []Claim{{true, false, q.itself}}
	if q.opposite.sure == api.Yes {
		return append(from, Claim{true, true, -q.itself}), true
	}
	if fail, ok := whyNoneCarries(q.rules); ok {
		return append(from, fail...), true
	}
	for _, r := range q.opposite.rules {
		if r.unheld > 0 {
			continue
		}
		if fail, ok := whyNoneCarries(r.above); ok {
			return slices.Concat(from, r.all(false), fail), true
		}
	}
	return nil, false
}

// whyNoneCarries tells, of each rule that could make its head hold, what of its body FAILS; false: nothing does of one.
func whyNoneCarries(rules []*standing) ([]Claim, bool) {
	var from []Claim
	for _, r := range rules {
		if r.kind == api.Defeater {
			continue
		}
		if r.fails == none {
			return nil, false
		}
		from = append(from, Claim{false, false, r.fails})
	}
	return from, true
}

// carries tells whether a rule can make its head hold, and all of its body does.
func carries(r *standing) bool { return r.kind != api.Defeater && r.unheld == 0 }

// all of a rule's body: that it is SURE, or else that it HOLDS.
func (r *standing) all(sure bool) []Claim {
	claims := make([]Claim, len(r.body))
	for i, q := range r.body {
		claims[i] = Claim{sure, true, q}
	}
	return claims
}
