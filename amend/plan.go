package amend

// What changes cost. Of two twins one goes and the other one comes by one move: each costs half of it.
const (
	changeCost = 2
	twinCost   = 1
)

// cost of what goes, or comes, as a whole.
func (t *tree) cost() int {
	if t.twin {
		return twinCost
	}
	return changeCost
}

// plan is how a provision that stays at its path becomes another one.
type plan struct {
	from, to *tree
	cost     int
	lines    []pair // those that stay, or become others
	places   []*place
	gone     []*leaver
}

// place is that of a kid of the provision that comes.
type place struct {
	in    *plan
	to    *tree  // what is to stand there
	from  *tree  // what becomes that; nil: nothing, it is put
	inner *plan  // how it does; nil: it has all but the label, or is put
	there bool   // whether it stands there, in order
	label string // its label, if so
}

// leaver is a kid that goes.
type leaver struct {
	*tree
	moves bool // whether it comes to another place
}

// planOf is the cheapest plan that makes one provision of another.
func planOf(from, to *tree) *plan {
	p := &plan{from: from, to: to}
	if from.content == to.content {
		return p
	}
	if from.item.Head != to.item.Head {
		p.cost += changeCost
	}
	p.planLines()
	p.planKids()
	return p
}

// planLines pairs the lines: what has no pair is dropped, or added.
func (p *plan) planLines() {
	old, young := p.from.item.Lines, p.to.item.Lines
	pairs, gain := align(len(old), len(young), func(i, k int) int {
		if old[i] == young[k] {
			return 2
		}
		return 1
	})
	p.lines = pairs
	p.cost += (len(old) + len(young) - gain) * changeCost
}

// planKids pairs the kids: what has no pair goes, or is put.
func (p *plan) planKids() {
	m := newMatch(p.from.kids, p.to.kids)
	for _, to := range m.to {
		p.places = append(p.places, &place{in: p, to: to})
	}
	pairs, gain := align(len(m.from), len(m.to), m.gain)
	p.cost += m.cost() - gain/gainUnit
	inOrder := make([]bool, len(m.from))
	for _, x := range pairs {
		p.places[x.to].take(m, x)
		p.places[x.to].there = true
		inOrder[x.from] = true
	}
	for i, from := range m.from {
		switch {
		case inOrder[i]:
		case m.isLoose(i):
			p.gone = append(p.gone, &leaver{tree: from})
		default:
			p.places[m.heir[i]].take(m, pair{i, m.heir[i]})
		}
	}
}

// take tells what becomes that which is to stand at a place.
func (p *place) take(m *match, x pair) {
	p.from = m.from[x.from]
	p.label = p.from.item.Label
	if m.heir[x.from] == x.to {
		p.inner = m.inner[x.from]
	}
}

// ahead is the label of that which stands ahead of a place; empty: nothing does.
func (p *place) ahead() string {
	label := ""
	for _, other := range p.in.places {
		if other == p {
			break
		}
		if other.there {
			label = other.label
		}
	}
	return label
}
