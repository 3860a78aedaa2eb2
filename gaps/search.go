package gaps

// search for the first case that has some answers, and with which none of some rows fits.
type search struct {
	rows    []box
	looksAt func(question int) set // which answers it looks at
	avoids  func(row int) bool     // what it looks for: what none of these rows fits
}

// field is the box in which a case is looked for.
func (s search) field() box {
	var b box
	for q := range b {
		b[q] = s.looksAt(q)
	}
	return b
}

// avoided are the rows that must not fit, in new memory.
func (s search) avoided() []box {
	var rows []box
	for i, row := range s.rows {
		if s.avoids(i) {
			rows = append(rows, row)
		}
	}
	return rows
}

// some tells whether there is such a case.
func (s search) some() bool { return !isCovered(s.field(), s.avoided()) }

// first such case, as a box; false: there is none.
func (s search) first() (box, bool) {
	b := s.field()
	if b.isEmpty() {
		return box{}, false
	}
	rows := s.avoided()
	if isCovered(b, rows) {
		return box{}, false
	}
	for q := range b {
		b[q] = firstAnswer(b, q, rows)
	}
	return b, true
}

// firstAnswer to a question that cases of a box have that are in none of some rows. There are such cases: if it is none of the other answers, it is the last one.
func firstAnswer(b box, question int, rows []box) set {
	left := b[question]
	for left.count() > 1 && isCovered(b.with(question, only(left.first())), rows) {
		left &^= only(left.first())
	}
	return only(left.first())
}

// list is the rows of a table, and behind them one that says nothing of any case.
type list struct {
	boxes []box
	outs  []string
}

func listOf(t Table) list {
	l := list{boxes: append(t.boxes(), t.whole())}
	for _, row := range t.Rows {
		l.outs = append(l.outs, row.Out)
	}
	l.outs = append(l.outs, "")
	return l
}

// nothing is the number of the row that says nothing.
func (l list) nothing() int { return len(l.boxes) - 1 }

// alone searches for a case that a row fits, and no row ahead of it.
func (l list) alone(row int) search {
	return search{
		rows:    l.boxes,
		looksAt: func(question int) set { return l.boxes[row][question] },
		avoids:  func(other int) bool { return other < row },
	}
}

// pair is two tables of the same questions.
type pair struct {
	a, b  list
	boxes []box // of both
}

// alone searches a box for a case that a row of each fits, and no row ahead of it does.
func (p pair) alone(inA, inB int, within box) search {
	both := p.a.boxes[inA].and(p.b.boxes[inB]).and(within)
	fromB := len(p.a.boxes)
	return search{
		rows:    p.boxes,
		looksAt: func(question int) set { return both[question] },
		avoids:  func(row int) bool { return row < inA || fromB <= row && row < fromB+inB },
	}
}

// apart is the first case of which two tables of the same questions say different things; false: there is none.
func apart(a, b Table) ([]int, bool) {
	p := pair{a: listOf(a), b: listOf(b)}
	p.boxes = append(append(p.boxes, p.a.boxes...), p.b.boxes...)
	var first []int
	left := []box{a.whole()}
	for i, said := range p.a.outs {
		for k, other := range p.b.outs {
			if said == other {
				continue
			}
			if c, some := p.firstIn(left, i, k); some {
				first = c.firstCase(a)
				left = a.whole().ahead(c)
			}
		}
	}
	return first, first != nil
}

// firstIn is the first case in boxes, which stand one behind the other, that a row of each table fits and no row ahead of it does.
func (p pair) firstIn(boxes []box, inA, inB int) (box, bool) {
	for _, b := range boxes {
		if c, some := p.alone(inA, inB, b).first(); some {
			return c, true
		}
	}
	return box{}, false
}
