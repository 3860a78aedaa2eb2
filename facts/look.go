package facts

import (
	"slices"

	"statute/api"
	"statute/day"
	"statute/terms"
)

// Holds: the truth of a condition.
func (f *File) Holds(n terms.Node, who, on, known int) (bool, error) {
	value, err := f.look(on, known).find(ask{node: &n, who: who})
	return value == 1, err
}

// Sum of a node.
func (f *File) Sum(n terms.Node, who, on, known int) (int, error) {
	return f.look(on, known).find(ask{node: &n, who: who, sum: true})
}

// look is a look into a file on a day, as known on a day.
type look struct {
	file      *File
	on, known int
	worth     func(name string, who int) int // what a name is worth
	met       map[ask]answer
	open      []question // each stands in the one ahead of it
}

func (f *File) look(on, known int) *look {
	worth := func(name string, who int) int {
		value, _ := f.Value(who, name, on, known)
		return value
	}
	return &look{file: f, on: on, known: known, worth: worth, met: map[ask]answer{}}
}

// ask is what a node is worth of somebody: a sum its value; a condition 1, if it holds, else 0.
type ask struct {
	node *terms.Node
	who  int
	sum  bool // whether it is a sum that is asked for
}

// answer to what was asked. It is kept: people may stand to each other in so many ways that nothing can be looked at twice.
type answer struct {
	value int
	done  bool // false: it is still looked for
}

// question is something that is being looked for.
type question struct {
	ask
	of    []int // whom its kids are asked of, one after the other
	heard int   // answers so far
	value int   // what came of them
}

// find what is asked for. Nodes may lie deeper within each other than calls can, so what is open stands in a list.
func (l *look) find(first ask) (int, error) {
	if !isPerson(first.who) || !day.IsDay(l.on) || !day.IsDay(l.known) {
		return 0, api.ErrKind
	}
	err := l.begin(first)
	for err == nil && len(l.open) > 0 {
		err = l.goOn()
	}
	if err != nil {
		return 0, err
	}
	return l.met[first].value, nil
}

// begin to look for something.
func (l *look) begin(a ask) error {
	if !a.isRight() {
		return api.ErrKind
	}
	q := question{ask: a}
	switch a.node.Kind {
	case some, every:
		q.of = l.others(a.node.Word, a.who)
	case nameKind, numberKind, count, total:
		q.value = l.told(a)
	default:
		q.of = slices.Repeat([]int{a.who}, len(a.node.Kids))
	}
	if a.node.Kind == and || a.node.Kind == every {
		q.value = 1
	}
	l.met[a] = answer{}
	l.open = append(l.open, q)
	return q.checkSize()
}

// goOn with what was opened last.
func (l *look) goOn() error {
	q := &l.open[len(l.open)-1]
	if q.heard == len(q.of) {
		l.met[q.ask] = answer{q.value, true}
		l.open = l.open[:len(l.open)-1]
		return nil
	}
	next := q.next()
	got, met := l.met[next]
	switch {
	case !met:
		return l.begin(next)
	case !got.done:
		// What hangs on itself has no end, as a list lies within itself: no such node.
		return api.ErrKind
	}
	return q.hear(got.value)
}

// others who stand to somebody so.
func (l *look) others(word string, who int) []int {
	return l.file.Others(who, word, l.on, l.known)
}

// told is what a node is worth that has no kids to be asked.
func (l *look) told(a ask) int {
	n := a.node
	switch n.Kind {
	case numberKind:
		return n.N
	case count:
		return hundredths * len(l.others(n.Word, a.who))
	case total:
		sum := 0
		for _, other := range l.others(n.Kids[0].Word, a.who) {
			value, _ := l.file.Value(other, n.Word, l.on, l.known)
			sum += value
		}
		return sum
	}
	value := l.worth(n.Word, a.who)
	if a.sum {
		return value
	}
	return truth(value != 0)
}
