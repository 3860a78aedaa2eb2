package amend

import (
	"cmp"
	"slices"
)

// maxTries bounds how often other couples are tried: a search has an end.
const maxTries = 2000

// search tries other couples, one by one, and keeps what makes fewer changes, until there are at most so many. It tells how many tries are left.
func (v *view) search(most, tries int) int {
	v.restore(v.all)
	for found := true; found; {
		found = false
		for _, c := range v.others() {
			if len(v.ops) <= most || tries == 0 {
				return tries
			}
			if c.x.mate == c.y || !canCouple(c.x, c.y) || !v.force(c.x, c.y) {
				continue
			}
			tries--
			if v.take(v.weigh()) {
				found = true
			} else {
				v.restore(v.all)
			}
		}
	}
	return tries
}

// canCouple tells whether one could become another one by at most one change of its own.
func canCouple(x, y *tree) bool {
	if x.outer.mate == nil || y.outer.mate == nil || isSettled(x) && isSettled(y) {
		return false
	}
	if x.texts == y.texts {
		return x.label() == y.label() || x.outer.mate == y.outer
	}
	return x.label() == y.label() && x.outer.mate == y.outer && textCost(x, y) < manyTexts
}

// isSettled tells whether nothing is to be changed about a provision for itself.
func isSettled(t *tree) bool { return t.mate != nil && own(t) == 0 }

// others are the couples that could be instead of those that are: first those that seem to cost the least.
func (v *view) others() []candidate {
	var list []candidate
	for _, x := range v.from[1:] {
		for _, y := range v.to[1:] {
			if x.mate != y && canCouple(x, y) {
				list = append(list, candidate{x, y, v.cost(x, y)})
			}
		}
	}
	slices.SortStableFunc(list, func(a, b candidate) int { return cmp.Compare(a.cost, b.cost) })
	return list
}

// force couples two that had others, or none; false: what they lie in has then no mate.
func (v *view) force(x, y *tree) bool {
	if x.mate != nil {
		drop(x)
	}
	if y.mate != nil {
		drop(y.mate)
	}
	if x.outer.mate == nil || y.outer.mate == nil {
		v.restore(v.all)
		return false
	}
	v.pairInside(x, y)
	return true
}

// drop parts a couple, and all that lies in one of them from what is its mate.
func drop(x *tree) {
	y := x.mate
	part(x)
	for _, kid := range x.kids {
		if kid.mate != nil {
			drop(kid)
		}
	}
	for _, kid := range y.kids {
		if kid.mate != nil {
			drop(kid.mate)
		}
	}
}
