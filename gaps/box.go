package gaps

import (
	"math/bits"

	"statute/api"
)

// set of numbers, of answers to a question or of questions: a bit for each.
type set uint16

// only is the set of one number.
func only(n int) set { return 1 << n }

// upTo is the set of so many numbers, from 0 on.
func upTo(count int) set { return only(count) - 1 }

func (s set) count() int { return bits.OnesCount16(uint16(s)) }

func (s set) has(n int) bool { return s&only(n) != 0 }

// first number of a set that is not empty.
func (s set) first() int { return bits.TrailingZeros16(uint16(s)) }

// numbers of a set, rising; not nil, also where there are none.
func (s set) numbers() []int {
	numbers := []int{}
	for ; s != 0; s &= s - 1 {
		numbers = append(numbers, s.first())
	}
	return numbers
}

// box is all cases that have, at each question, one of some answers. A question that a table has not is taken to have one answer.
type box [api.MaxCells]set

// whole is the box of all cases of a table.
func (t Table) whole() box {
	var b box
	for q := range b {
		b[q] = only(0)
	}
	for q, question := range t.Questions {
		b[q] = upTo(len(question.Answers))
	}
	return b
}

// boxes of the cases that the rows of a table fit.
func (t Table) boxes() []box {
	var boxes []box
	for _, row := range t.Rows {
		b := t.whole()
		for q, cell := range row.Cells {
			if cell != nil {
				b[q] = setOf(cell)
			}
		}
		boxes = append(boxes, b)
	}
	return boxes
}

func setOf(cell []int) set {
	var s set
	for _, n := range cell {
		s |= only(n)
	}
	return s
}

// and is the box of the cases that are in both.
func (b box) and(other box) box {
	for q := range b {
		b[q] &= other[q]
	}
	return b
}

// with is the box, but with those answers to a question.
func (b box) with(question int, answers set) box {
	b[question] = answers
	return b
}

// isEmpty tells whether no case is in a box.
func (b box) isEmpty() bool { return b.size() == 0 }

// size is how many cases are in a box.
func (b box) size() int {
	size := 1
	for _, s := range b {
		size *= s.count()
	}
	return size
}

// shared is how many cases of a box are in another one, too, and at how many questions it has answers that the other has not.
func (b box) shared(other box) (size, open int) {
	size = 1
	for q, s := range b {
		both := s & other[q]
		if both != s {
			open++
		}
		size *= both.count()
	}
	return size, open
}

// firstCase of a table that is in a box, which is not empty.
func (b box) firstCase(t Table) []int {
	c := make([]int, len(t.Questions))
	for q := range c {
		c[q] = b[q].first()
	}
	return c
}

// ahead are the boxes of all cases of a box that stand ahead of one: those that part from it at an earlier question first.
func (b box) ahead(c box) []box {
	var boxes []box
	for q := range b {
		if lower := b[q] & (c[q] - 1); lower != 0 {
			boxes = append(boxes, b.with(q, lower))
		}
		b[q] = c[q]
	}
	return boxes
}
