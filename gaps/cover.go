package gaps

import "statute/api"

// isCovered tells whether each case of a box is in one of some others. These come into another order.
func isCovered(b box, rows []box) bool {
	if b.isEmpty() {
		return true
	}
	covered, _ := cover{b}.of(b, rows)
	return covered
}

// cover of a box by others.
type cover struct {
	box box
}

// of tells whether rows cover a part of the box, and at which questions it matters that the part has not all answers of the box: at the others it could have them, and would be covered, too.
func (c cover) of(part box, rows []box) (bool, set) {
	met, size := 0, 0
	near, fewest, most := 0, len(part)+1, 0
	for i, row := range rows {
		shared, open := part.shared(row)
		if shared == 0 {
			continue
		}
		if open == 0 {
			return true, c.narrower(row)
		}
		if open < fewest || open == fewest && shared > most {
			near, fewest, most = met, open, shared
		}
		rows[met], rows[i] = row, rows[met]
		met++
		size += shared
	}
	// All of them together are too small.
	if size < part.size() {
		return false, 0
	}
	return c.split(part, rows[:met], rows[near])
}

// narrower are the questions at which another box has not all answers of the box.
func (c cover) narrower(other box) set {
	var questions set
	for q, answers := range c.box {
		if answers&^other[q] != 0 {
			questions |= only(q)
		}
	}
	return questions
}

// split a part in two, at a question at which a row has some of its answers and others not. If that question doesn't matter for the one, what is told of it holds for the whole part.
func (c cover) split(part box, rows []box, row box) (bool, set) {
	q, escaped := weigh(part, rows, row)
	// A case that is not covered would have to be out of all rows.
	if escaped < len(rows) {
		return true, c.narrower(part)
	}
	var matters set
	for _, answers := range [2]set{part[q] & row[q], part[q] &^ row[q]} {
		covered, questions := c.of(part.with(q, answers), rows)
		if !covered {
			return false, 0
		}
		if !questions.has(q) {
			return true, questions
		}
		matters |= questions
	}
	if part[q] == c.box[q] {
		matters &^= only(q)
	}
	return true, matters
}

// weigh tells at which question, of those at which a row has not all answers of a part, as few rows as can be have all of them; and a number that is at least that of the rows that one case of the part can be out of.
func weigh(part box, rows []box, row box) (at, escaped int) {
	top := 0
	for q, answers := range part {
		open, most := without(answers, rows, q)
		escaped += most
		if answers&^row[q] != 0 && open > top {
			at, top = q, open
		}
	}
	return at, escaped
}

// without is how many rows have not all of some answers to a question, and how many at most are without the same answer.
func without(answers set, rows []box, question int) (open, most int) {
	var count [api.MaxCells]int
	for _, row := range rows {
		left := answers &^ row[question]
		if left == 0 {
			continue
		}
		open++
		for ; left != 0; left &= left - 1 {
			answer := left.first()
			count[answer]++
			most = max(most, count[answer])
		}
	}
	return open, most
}
