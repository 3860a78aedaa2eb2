package facts

import (
	"statute/api"
	"statute/terms"
)

// View of a file on a day, as known on a day, for many questions: what it has looked up once it knows. Until it is done the file must stay as it is.
type View struct {
	file      *File
	on, known int
	met       map[subject]entry
}

// subject that facts speak of: somebody, under a name.
type subject struct {
	who  int
	name string
}

// entry is what a file says of a subject.
type entry struct {
	value  int
	others []int
}

// View on a day, as known on a day.
func (f *File) View(on, known int) *View {
	return &View{file: f, on: on, known: known, met: map[subject]entry{}}
}

// entry of somebody under a name.
func (v *View) entry(who int, name string) entry {
	key := subject{who, name}
	e, met := v.met[key]
	if !met {
		e.value, _ = v.file.Value(who, name, v.on, v.known)
		e.others = v.file.Others(who, name, v.on, v.known)
		v.met[key] = e
	}
	return e
}

// Value that stands under a name, or 0.
func (v *View) Value(who int, name string) int { return v.entry(who, name).value }

// Holds: the truth of a condition.
func (v *View) Holds(n terms.Node, who int) (bool, error) {
	value, err := v.look().find(ask{node: &n, who: who})
	return value == 1, err
}

// Sum of a node.
func (v *View) Sum(n terms.Node, who int) (int, error) {
	return v.look().find(ask{node: &n, who: who, sum: true})
}

// SumBy is Sum, but each `*` is rounded by a way, and worth says what a name is worth: its error is told where the name stands.
func (v *View) SumBy(n terms.Node, who, way int, worth func(name string) (int, error)) (int, error) {
	l := v.look()
	l.way = way
	l.worth = func(name string, _ int) (int, error) { return worth(name) }
	return l.find(ask{node: &n, who: who, sum: true})
}

// look by what the file says.
func (v *View) look() *look {
	worth := func(name string, who int) (int, error) { return v.Value(who, name), nil }
	return &look{view: v, worth: worth, way: api.HalfUp, met: map[ask]answer{}}
}
