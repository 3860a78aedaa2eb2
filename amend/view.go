package amend

import (
	"cmp"
	"slices"

	"statute/api"
)

// changeCost is what a change costs, so that there are halves.
const changeCost = 2

// view is a way to hold two laws against each other. What goes at one place and comes at another one may be a single change, or two: that hangs on all the rest. So the views guess, each in its way.
type view struct {
	guess
	from, to []*tree  // all, each ahead of its kids
	known    [][]int  // what was found out about costs: one more each; 0: nothing
	trial             // the best one so far
	ops      []api.Op // its changes
}

// guess is what a view takes for granted.
type guess struct {
	twinCost int // what it costs that something goes, or comes, of which the other law has a twin
	twins    int // what twins are
}

// What twins are, at different places: provisions with the same label and the same texts; or with all the same in them, too; or such of which each has one twin alone, the greatest first.
const (
	likeTwins = iota
	sameTwins
	onlyTwins
)

// guesses that are made.
func guesses() []guess {
	return []guess{{changeCost, sameTwins}, {1, onlyTwins}, {0, onlyTwins}, {1, sameTwins}, {0, sameTwins}, {1, likeTwins}, {0, likeTwins}}
}

// newView of two laws.
func newView(from, to *tree, g guess) *view {
	v := &view{guess: g, from: from.all(nil), to: to.all(nil)}
	v.known = make([][]int, len(v.from))
	for i := range v.known {
		v.known[i] = make([]int, len(v.to))
	}
	findLikes(v.from, v.to)
	findLikes(v.to, v.from)
	markStrays(v.from, v.to)
	markStrays(v.to, v.from)
	if v.twins == onlyTwins {
		v.markOnlyTwins()
	} else {
		v.markTwins(v.from)
		v.markTwins(v.to)
	}
	return v
}

// kind is what two provisions have in common of which one can become the other by a move.
type kind struct {
	label string
	texts int
}

// findLikes finds for each of a law those of another one that it can become by a move.
func findLikes(law, other []*tree) {
	likes := map[kind][]*tree{}
	for _, t := range other {
		k := kind{t.label(), t.texts}
		likes[k] = append(likes[k], t)
	}
	for _, t := range law {
		t.like = likes[kind{t.label(), t.texts}]
	}
}

// markStrays marks the provisions of a law of which others, or none, are at their paths in another law.
func markStrays(law, other []*tree) {
	there := map[string]int{}
	for _, t := range other {
		there[t.path()] = t.content
	}
	for _, t := range law {
		t.stray = there[t.path()] != t.content
	}
}

// markTwins marks what the other law has, too, at another place.
func (v *view) markTwins(law []*tree) {
	for _, t := range law {
		t.twin = t.stray && slices.ContainsFunc(t.like, func(o *tree) bool {
			return o.stray && (v.twins == likeTwins || o.content == t.content)
		})
	}
}

// markOnlyTwins marks what has a twin for itself; what lies in it has one in that.
func (v *view) markOnlyTwins() {
	greatest := slices.Clone(v.from)
	slices.SortStableFunc(greatest, func(x, y *tree) int { return cmp.Compare(y.size, x.size) })
	for _, x := range greatest {
		if !x.stray || x.twin {
			continue
		}
		at := slices.IndexFunc(x.like, func(y *tree) bool { return y.stray && !y.twin && y.content == x.content })
		if at >= 0 {
			x.setTwins()
			x.like[at].setTwins()
		}
	}
}

// setTwins marks all of a tree.
func (t *tree) setTwins() {
	t.twin = true
	for _, kid := range t.kids {
		kid.setTwins()
	}
}

// single is the cost of what goes, or comes, as a whole.
func (v *view) single(t *tree) int {
	if t.twin {
		return v.twinCost
	}
	return changeCost
}

// cost of one becoming another one, but for its label and its place. What costs as much as to go and to come is not looked at closer.
func (v *view) cost(x, y *tree) int {
	if x.content == y.content {
		return 0
	}
	if v.known[x.number][y.number] == 0 {
		cost := textCost(x, y) * changeCost
		if cost < 2*changeCost {
			_, kids := v.match(x.kids, y.kids).pairs()
			cost = min(cost+kids, 2*changeCost)
		}
		v.known[x.number][y.number] = cost + 1
	}
	return v.known[x.number][y.number] - 1
}

// pairInside couples two, and what lies in them, as far as it seems right.
func (v *view) pairInside(x, y *tree) {
	couple(x, y)
	pairs, _ := v.match(x.kids, y.kids).pairs()
	for _, p := range pairs {
		v.pairInside(x.kids[p.from], y.kids[p.to])
	}
}

// candidate is a move that can be made.
type candidate struct {
	x, y *tree
	cost int
}

// pairStrays couples what goes with what comes, if a move makes the one of the other; it tells whether there was any.
func (v *view) pairStrays(exact bool) bool {
	var list []candidate
	for _, x := range v.from {
		if !x.isExposed() {
			continue
		}
		for _, y := range x.like {
			if y.isExposed() && (!exact || x.content == y.content) {
				list = append(list, candidate{x, y, v.cost(x, y)})
			}
		}
	}
	slices.SortStableFunc(list, func(a, b candidate) int { return cmp.Compare(a.cost, b.cost) })
	for _, c := range list {
		if c.x.mate == nil && c.y.mate == nil {
			v.pairInside(c.x, c.y)
		}
	}
	return len(list) > 0
}

// pairLeft couples kids of couples that have no mate yet, and could become each other by one change, between those that stay in order.
func (v *view) pairLeft() {
	for _, x := range v.from {
		if x.mate == nil {
			continue
		}
		old, young := x.kids, x.mate.kids
		from, to := 0, 0
		for _, kid := range x.stayers() {
			v.pairGap(old[from:kid.place], young[to:kid.mate.place])
			from, to = kid.place+1, kid.mate.place+1
		}
		v.pairGap(old[from:], young[to:])
	}
}

// pairGap couples those of two lists that have no mate, in order.
func (v *view) pairGap(old, young []*tree) {
	old, young = free(old), free(young)
	pairs, _ := align(len(old), len(young), func(i, k int) int {
		x, y := old[i], young[k]
		switch {
		case x.label() == y.label() && textCost(x, y) < manyTexts:
			return 3
		case x.texts == y.texts:
			return 2
		}
		return 0
	})
	for _, p := range pairs {
		v.pairInside(old[p.from], young[p.to])
	}
}

// free are those of a list that have no mate.
func free(list []*tree) []*tree {
	return slices.DeleteFunc(slices.Clone(list), func(t *tree) bool { return t.mate != nil })
}
