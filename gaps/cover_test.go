package gaps

import (
	"math/rand"
	"slices"
	"testing"

	"statute/api"
)

// wholeOf so many questions with so many answers each.
func wholeOf(questions, answers int) box { return asking(questions, answers).whole() }

// isCoveredPlainly goes through all cases of a box.
func isCoveredPlainly(b box, rows []box) bool {
	c := b
	for q := range c {
		c[q] = only(b[q].first())
	}
	for {
		if !slices.ContainsFunc(rows, func(row box) bool { return !row.and(c).isEmpty() }) {
			return false
		}
		q := len(c) - 1
		for ; q >= 0; q-- {
			if higher := b[q] &^ (c[q] | (c[q] - 1)); higher != 0 {
				c[q] = only(higher.first())
				break
			}
			c[q] = only(b[q].first())
		}
		if q < 0 {
			return true
		}
	}
}

// someBoxes within a box: each has all answers to a question, or is without some.
func someBoxes(r *rand.Rand, whole box, questions, count int, share float64) []box {
	var boxes []box
	for range count {
		b := whole
		for q := range questions {
			if r.Float64() < share {
				b[q] &^= only(r.Intn(whole[q].count()))
			}
			if r.Float64() < share/3 {
				b[q] &= only(r.Intn(whole[q].count()))
			}
			if b[q] == 0 {
				b[q] = whole[q]
			}
		}
		boxes = append(boxes, b)
	}
	return boxes
}

func TestP141WhatIsCoveredGoesCaseByCase(t *testing.T) {
	r := rand.New(rand.NewSource(1411))
	covered, all := 0, 0
	for _, shape := range [][2]int{{4, 3}, {6, 2}, {7, 2}, {8, 2}, {5, 3}, {4, 4}, {3, 6}} {
		whole := wholeOf(shape[0], shape[1])
		for range 3000 {
			rows := someBoxes(r, whole, shape[0], 3+r.Intn(30), .2+.6*r.Float64())
			want := isCoveredPlainly(whole, rows)
			if got := isCovered(whole, slices.Clone(rows)); got != want {
				t.Fatalf("%v by %v: %v", whole, rows, got)
			}
			all++
			if want {
				covered++
			}
		}
	}
	if covered < all/4 || covered > all*3/4 {
		t.Errorf("%d of %d are covered: too few of one kind", covered, all)
	}
}

func TestP141WhatIsCoveredByAnyBoxes(t *testing.T) {
	r := rand.New(rand.NewSource(1413))
	for _, shape := range [][2]int{{1, 12}, {2, 8}, {2, 12}, {3, 5}, {3, 8}, {4, 4}} {
		whole := wholeOf(shape[0], shape[1])
		for range 3000 {
			var rows []box
			for range 2 + r.Intn(20) {
				row := whole
				for q := range shape[0] {
					if r.Intn(3) > 0 {
						row[q] = whole[q] & set(1+r.Intn(1<<shape[1]-1))
					}
				}
				rows = append(rows, row)
			}
			if got := isCovered(whole, slices.Clone(rows)); got != isCoveredPlainly(whole, rows) {
				t.Fatalf("%v by %v: %v", whole, rows, got)
			}
		}
	}
}

// TestP141WhatACoverHangsOn: a part that is covered stays so, if it gets all answers to the questions that don't matter.
func TestP141WhatACoverHangsOn(t *testing.T) {
	r := rand.New(rand.NewSource(1414))
	wider := 0
	for range 20000 {
		questions, answers := 2+r.Intn(3), 2+r.Intn(3)
		whole := wholeOf(questions, answers)
		rows := someBoxes(r, whole, questions, 2+r.Intn(12), .2+.6*r.Float64())
		part := someBoxes(r, whole, questions, 1, .6)[0]
		covered, matter := cover{whole}.of(part, slices.Clone(rows))
		if !covered {
			continue
		}
		wide := part
		for q := range wide {
			if !matter.has(q) {
				wide[q] = whole[q]
			}
		}
		if wide != part {
			wider++
		}
		if !isCoveredPlainly(wide, rows) {
			t.Fatalf("%v of %v by %v: it hangs on %v", part, whole, rows, matter.numbers())
		}
	}
	if wider < 1000 {
		t.Errorf("%d parts got wider", wider)
	}
}

// TestP141WhatIsNearlyCovered: boxes that cover all but one case of a box, and with one more all of it.
func TestP141WhatIsNearlyCovered(t *testing.T) {
	r := rand.New(rand.NewSource(1412))
	for range 3000 {
		questions, answers := 3+r.Intn(4), 2+r.Intn(2)
		whole := wholeOf(questions, answers)
		last := whole
		for q := range questions {
			last[q] = only(r.Intn(answers))
		}
		var rows []box
		for !isCoveredPlainly(whole, append(slices.Clone(rows), last)) {
			b := someBoxes(r, whole, questions, 1, .5)[0]
			if q := r.Intn(questions); !b.and(last).isEmpty() {
				b[q] = whole[q] &^ last[q]
			}
			rows = append(rows, b)
		}
		if isCovered(whole, slices.Clone(rows)) {
			t.Fatalf("%v by %v, but for %v", whole, rows, last)
		}
		if !isCovered(whole, append(slices.Clone(rows), last)) {
			t.Fatalf("%v by %v and %v", whole, rows, last)
		}
	}
}

func TestP141TheEmptyBoxIsCovered(t *testing.T) {
	b := wholeOf(api.MaxCells, 2).with(3, 0)
	if !isCovered(b, nil) || !isCovered(b, []box{b}) || isCovered(wholeOf(0, 0), nil) || !isCovered(wholeOf(0, 0), []box{wholeOf(0, 0)}) {
		t.Error("an empty box has a case, or one that is not has none")
	}
}
