package amend

import "slices"

// gainUnit is what a cost of 1 weighs in a gain. There can't be as many pairs: so beside costs each pair can gain a little, which tips the scales between what costs the same.
const gainUnit = 1000

// match is how the kids of a provision can become those of another one.
type match struct {
	*view
	from, to []*tree
	heir     []int // for each that is: the number of that to come which has its label; -1: none has
	heirOf   []int // for each to come: the number of that which is; -1: none is
}

func (v *view) match(from, to []*tree) *match {
	m := &match{view: v, from: from, to: to, heirOf: slices.Repeat([]int{-1}, len(to))}
	for i, x := range from {
		k := slices.IndexFunc(to, func(y *tree) bool { return y.label() == x.label() })
		m.heir = append(m.heir, k)
		if k >= 0 {
			m.heirOf[k] = i
		}
	}
	return m
}

// inner is what it costs that one becomes another one, but for its label and its place.
func (m *match) inner(i, k int) int { return m.cost(m.from[i], m.to[k]) }

// replaced is what it costs that one goes and another one comes.
func (m *match) replaced(i, k int) int { return m.single(m.from[i]) + m.single(m.to[k]) }

// moved is what it costs that one becomes its heir, out of order.
func (m *match) moved(i int) int { return m.inner(i, m.heir[i]) + changeCost }

// isLoose tells whether one that is out of order goes, and its heir, if it has one, is another one.
func (m *match) isLoose(i int) bool {
	return m.heir[i] < 0 || m.replaced(i, m.heir[i]) <= m.moved(i)
}

// isNew tells whether one to come that is out of order is another one than all that are.
func (m *match) isNew(k int) bool { return m.heirOf[k] < 0 || m.isLoose(m.heirOf[k]) }

// base is the cost of all kids, if none of them stays in order.
func (m *match) base() int {
	sum := 0
	for i, x := range m.from {
		if m.isLoose(i) {
			sum += m.single(x)
		} else {
			sum += m.moved(i)
		}
	}
	for k, y := range m.to {
		if m.isNew(k) {
			sum += m.single(y)
		}
	}
	return sum
}

// gain is what is saved, if one becomes another one in order: its heir, or what has its texts.
func (m *match) gain(i, k int) int {
	if m.heir[i] == k {
		inner := m.inner(i, k)
		saved := (min(m.replaced(i, k), m.moved(i)) - inner) * gainUnit
		if inner == 0 || !m.from[i].twin && !m.to[k].twin {
			// Better it stays; but a twin that would be changed leaves another one alone.
			saved++
		}
		return max(saved, 0)
	}
	// What isn't loose saves as much by a move: a label in its place would gain nothing.
	if m.from[i].texts == m.to[k].texts && m.isLoose(i) && m.isNew(k) {
		return max((m.replaced(i, k)-changeCost-m.inner(i, k))*gainUnit, 0)
	}
	return 0
}

// pairs of kids of which one becomes the other, and the cost of all kids.
func (m *match) pairs() ([]pair, int) {
	pairs, gain := align(len(m.from), len(m.to), m.gain)
	inOrder := make([]bool, len(m.from))
	for _, x := range pairs {
		inOrder[x.from] = true
	}
	for i := range m.from {
		if !inOrder[i] && !m.isLoose(i) {
			pairs = append(pairs, pair{i, m.heir[i]})
		}
	}
	return pairs, m.base() - gain/gainUnit
}
