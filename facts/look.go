package facts

import (
	"slices"

	"statute/api"
	"statute/day"
	"statute/terms"
)

// Holds: the truth of a condition.
func (f *File) Holds(n terms.Node, who, on, known int) (bool, error) {
	return f.View(on, known).Holds(n, who)
}

// Sum of a node.
func (f *File) Sum(n terms.Node, who, on, known int) (int, error) {
	return f.View(on, known).Sum(n, who)
}

// look is a look for what a node is worth.
type look struct {
	view  *View
	worth func(name string, who int) (int, error) // what a name is worth
	way   int                                     // how parts are rounded
	met   map[ask]answer
	open  []question // each stands in the one ahead of it
}

// ask is what a node is worth of somebody: a sum its value; a condition 1, if it holds, else 0.
type ask struct {
	node *terms.Node
	who  int
	sum  bool // whether it is a sum that is asked for
}

// answer to what was asked. It is kept: people may stand to each other in so many ways that nothing can be looked at twice.
type answer struct {
	value int
	done  bool // false: it is still looked for
}

// question is something that is being looked for.
type question struct {
	ask
	of    []int // whom its kids are asked of, one after the other
	heard int   // answers so far
	value int   // what came of them
}

// find what is asked for. Nodes may lie deeper within each other than calls can, so what is open stands in a list.
func (l *look) find(first ask) (int, error) {
	if !IsPerson(first.who) || !day.IsDay(l.view.on) || !day.IsDay(l.view.known) {
		return 0, api.ErrKind
	}
	err := l.begin(first)
	for err == nil && len(l.open) > 0 {
		err = l.goOn()
	}
	if err != nil {
		return 0, err
	}
	return l.met[first].value, nil
}

// begin to look for something.
func (l *look) begin(a ask) (err error) {
	if !a.isRight() {
		return api.ErrKind
	}
	q := question{ask: a}
	switch a.node.Kind {
	case some, every:
		q.of = l.others(a.node.Word, a.who)
	case nameKind, numberKind, count, total:
		if q.value, err = l.told(a); err != nil {
			return err
		}
	default:
		q.of = slices.Repeat([]int{a.who}, len(a.node.Kids))
	}
	if a.node.Kind == and || a.node.Kind == every {
		q.value = 1
	}
	l.met[a] = answer{}
	l.open = append(l.open, q)
	return q.checkSize()
}

// goOn with what was opened last.
func (l *look) goOn() error {
	q := &l.open[len(l.open)-1]
	if q.heard == len(q.of) {
		l.met[q.ask] = answer{q.value, true}
		l.open = l.open[:len(l.open)-1]
		return nil
	}
	next := q.next()
	got, met := l.met[next]
	switch {
	case !met:
		return l.begin(next)
	case !got.done:
		// What hangs on itself has no end, as a list lies within itself: no such node.
		return api.ErrKind
	}
	return q.hear(got.value, l.way)
}

// others who stand to somebody so.
func (l *look) others(word string, who int) []int { return l.view.entry(who, word).others }

// told is what a node is worth that has no kids to be asked.
func (l *look) told(a ask) (int, error) {
	n := a.node
	switch n.Kind {
	case numberKind:
		return n.N, nil
	case count:
		return hundredths * len(l.others(n.Word, a.who)), nil
	case total:
		sum := 0
		for _, other := range l.others(n.Kids[0].Word, a.who) {
			sum += l.view.Value(other, n.Word)
		}
		return sum, nil
	}
	value, err := l.worth(n.Word, a.who)
	if err == nil && !a.sum {
		value = truth(value != 0)
	}
	return value, err
}
