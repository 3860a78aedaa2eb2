package amend

import "slices"

// gainUnit is what a cost of 1 weighs in a gain. There can't be as many pairs: so beside costs each pair can gain a little, which tips the scales between what costs the same.
const gainUnit = 1000

// match is how the kids of a provision can become those of another one.
type match struct {
	from, to []*tree
	heir     []int   // for each that is: the number of that to come which has its label; -1: none has
	heirOf   []int   // for each to come: the number of that which is; -1: none is
	inner    []*plan // for each that is: how it becomes its heir
}

func newMatch(from, to []*tree) *match {
	m := &match{from: from, to: to, heirOf: slices.Repeat([]int{-1}, len(to)), inner: make([]*plan, len(from))}
	for i, x := range from {
		k := slices.IndexFunc(to, func(y *tree) bool { return y.item.Label == x.item.Label })
		m.heir = append(m.heir, k)
		if k >= 0 {
			m.heirOf[k] = i
			m.inner[i] = planOf(x, to[k])
		}
	}
	return m
}

// replaced is what it costs that one goes and another one comes.
func (m *match) replaced(i, k int) int { return m.from[i].cost() + m.to[k].cost() }

// moved is what it costs that one becomes its heir, out of order.
func (m *match) moved(i int) int { return m.inner[i].cost + changeCost }

// isLoose tells whether one that is out of order goes, and its heir, if it has one, is another one.
func (m *match) isLoose(i int) bool {
	return m.heir[i] < 0 || m.replaced(i, m.heir[i]) <= m.moved(i)
}

// isNew tells whether one to come that is out of order is another one than all that are.
func (m *match) isNew(k int) bool { return m.heirOf[k] < 0 || m.isLoose(m.heirOf[k]) }

// cost of all kids, if none of them stays in order.
func (m *match) cost() int {
	sum := 0
	for i, x := range m.from {
		if m.isLoose(i) {
			sum += x.cost()
		} else {
			sum += m.moved(i)
		}
	}
	for k, y := range m.to {
		if m.isNew(k) {
			sum += y.cost()
		}
	}
	return sum
}

// gain is what is saved, if one becomes another one in order: its heir, or what has all but its label.
func (m *match) gain(i, k int) int {
	if m.heir[i] == k {
		saved := (min(m.replaced(i, k), m.moved(i)) - m.inner[i].cost) * gainUnit
		if !m.from[i].twin && !m.to[k].twin {
			// Better it stays; but a twin that stays leaves another one alone.
			saved++
		}
		return max(saved, 0)
	}
	// What isn't loose saves as much by a move: a label in its place would gain nothing.
	if m.from[i].content == m.to[k].content && m.isLoose(i) && m.isNew(k) {
		return max((m.replaced(i, k)-changeCost)*gainUnit, 0)
	}
	return 0
}
