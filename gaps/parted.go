package gaps

import (
	"cmp"
	"slices"

	"statute/api"
)

// maxParts is how many parts rows are cut into at most, before those are joined that can be.
const maxParts = 4 * api.MaxRows

// Parted: a table that says the same, of whose rows no two fit one case.
func Parted(t Table) (Table, error) {
	if err := Valid(t); err != nil {
		return Table{}, err
	}
	for _, order := range [2][]int{t.order(), t.turned()} {
		parts, ok := t.parts(order)
		if ok && len(parts) <= api.MaxRows {
			return t.withRows(parts), nil
		}
	}
	return Table{}, api.ErrBound
}

// order of the rows.
func (t Table) order() []int {
	order := make([]int, len(t.Rows))
	for i := range order {
		order[i] = i
	}
	return order
}

// turned is the order in which, of rows that say the same, the last one comes first: often it is the one that is best left whole.
func (t Table) turned() []int {
	first := func(row int) int {
		return slices.IndexFunc(t.Rows, func(r Row) bool { return r.Out == t.Rows[row].Out })
	}
	order := t.order()
	slices.SortFunc(order, func(a, b int) int { return cmp.Or(cmp.Compare(first(a), first(b)), cmp.Compare(b, a)) })
	return order
}

// part of what a row fits, and what that says.
type part struct {
	box box
	out string
}

// parts of all rows, which are cut in an order; no case is in two of them. False: there are too many.
func (t Table) parts(order []int) ([]part, bool) {
	var parts []part
	rows := t.boxes()
	for _, i := range order {
		k := knife{most: maxParts - len(parts)}
		if !k.cut(rows[i], t.notFor(i, rows, parts)) {
			return nil, false
		}
		for _, b := range k.boxes {
			parts = append(parts, part{b, t.Rows[i].Out})
		}
	}
	return joined(parts), true
}

// notFor are the boxes of the cases that are not a row's: those of rows ahead that say something else, and those of parts that say the same.
func (t Table) notFor(row int, rows []box, parts []part) []box {
	var boxes []box
	for i, ahead := range rows[:row] {
		if t.Rows[i].Out != t.Rows[row].Out {
			boxes = append(boxes, ahead)
		}
	}
	for _, p := range parts {
		if p.out == t.Rows[row].Out {
			boxes = append(boxes, p.box)
		}
	}
	return boxes
}

// knife cuts what is in a box, and in none of some others, into boxes that have no case in common.
type knife struct {
	boxes []box
	most  int // how many they may be
}

// cut a box; false: there are too many.
func (k *knife) cut(b box, without []box) bool {
	met, near := b.meets(without)
	if len(met) == 0 {
		if !b.isEmpty() {
			k.boxes = append(k.boxes, b)
		}
		return len(k.boxes) <= k.most
	}
	// So there is no cut that leads to no box.
	if isCovered(b, met) {
		return true
	}
	for q := range b {
		if left := b[q] &^ near[q]; left != 0 && !k.cut(b.with(q, left), met) {
			return false
		}
		b[q] &= near[q]
	}
	return true
}

// meets tells which of some boxes have cases in common with a box, and the one that leaves out answers of it at the fewest questions.
func (b box) meets(others []box) (met []box, near box) {
	fewest := len(b) + 1
	for _, other := range others {
		size, open := b.shared(other)
		if size == 0 {
			continue
		}
		met = append(met, other)
		if open < fewest {
			near, fewest = other, open
		}
	}
	return met, near
}

// joined are parts of which those that are two at one question alone have become one.
func joined(parts []part) []part {
	for {
		before := len(parts)
		for q := range api.MaxCells {
			parts = joinedAt(parts, q)
		}
		if len(parts) == before {
			return parts
		}
	}
}

// joinedAt are parts of which those that say the same, and have the same answers to all questions but one, have become one.
func joinedAt(parts []part, question int) []part {
	var joined []part
	places := map[part]int{}
	for _, p := range parts {
		but := part{p.box.with(question, 0), p.out}
		place, is := places[but]
		if is {
			joined[place].box[question] |= p.box[question]
			continue
		}
		places[but] = len(joined)
		joined = append(joined, p)
	}
	return joined
}

// withRows is a table of the same questions, with a row for each part.
func (t Table) withRows(parts []part) Table {
	var parted Table
	for _, q := range t.Questions {
		parted.Questions = append(parted.Questions, Question{q.Name, slices.Clone(q.Answers)})
	}
	whole := t.whole()
	for _, p := range parts {
		cells := make([][]int, len(t.Questions))
		for q := range cells {
			if p.box[q] != whole[q] {
				cells[q] = p.box[q].numbers()
			}
		}
		parted.Rows = append(parted.Rows, Row{cells, p.out})
	}
	return parted
}
