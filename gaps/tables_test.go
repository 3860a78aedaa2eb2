package gaps

import (
	"fmt"
	"math/rand"
	"slices"
	"strings"
	"testing"

	"statute/api"
)

// tableOf a text, which is right.
func tableOf(t *testing.T, text string) Table {
	t.Helper()
	x, err := Read(text)
	if err != nil {
		t.Fatalf("%q: %v", text, err)
	}
	return x
}

// asking is a table without rows, of so many questions with so many answers each.
func asking(questions, answers int) Table {
	var t Table
	for q := range questions {
		x := Question{Name: fmt.Sprint("q", q)}
		for a := range answers {
			x.Answers = append(x.Answers, fmt.Sprint("a", a))
		}
		t.Questions = append(t.Questions, x)
	}
	return t
}

// clone of a table, which shares nothing with it.
func clone(t Table) Table {
	t.Questions, t.Rows = slices.Clone(t.Questions), slices.Clone(t.Rows)
	for i := range t.Questions {
		t.Questions[i].Answers = slices.Clone(t.Questions[i].Answers)
	}
	for i := range t.Rows {
		t.Rows[i].Cells = slices.Clone(t.Rows[i].Cells)
		for q := range t.Rows[i].Cells {
			t.Rows[i].Cells[q] = slices.Clone(t.Rows[i].Cells[q])
		}
	}
	return t
}

// lacking is a table without one of its rows.
func lacking(t Table, row int) Table {
	t = clone(t)
	t.Rows = slices.Delete(t.Rows, row, row+1)
	return t
}

// saying is a table of which a row says something else.
func saying(t Table, row int, out string) Table {
	t = clone(t)
	t.Rows[row].Out = out
	return t
}

// allCases of a table, in order.
func allCases(t Table) [][]int {
	cases := [][]int{{}}
	for _, q := range t.Questions {
		var longer [][]int
		for _, c := range cases {
			for n := range q.Answers {
				longer = append(longer, append(slices.Clone(c), n))
			}
		}
		cases = longer
	}
	return cases
}

// fitsPlainly tells whether a row fits a case, word by word.
func fitsPlainly(r Row, c []int) bool {
	for q, n := range c {
		if r.Cells[q] != nil && !slices.Contains(r.Cells[q], n) {
			return false
		}
	}
	return true
}

// saidPlainly is what the first row that fits says; nothing: none does.
func saidPlainly(t Table, c []int) string {
	for _, r := range t.Rows {
		if fitsPlainly(r, c) {
			return r.Out
		}
	}
	return ""
}

// someCell is often nil, and now and then empty or whole.
func someCell(r *rand.Rand, answers int) []int {
	if r.Intn(3) == 0 {
		return nil
	}
	cell := []int{}
	odds := 1 + r.Intn(4)
	for n := range answers {
		if r.Intn(5) < odds {
			cell = append(cell, n)
		}
	}
	if len(cell) == 0 && r.Intn(4) > 0 {
		return []int{r.Intn(answers)}
	}
	return cell
}

// someTable is small, and says few different things.
func someTable(r *rand.Rand) Table {
	var t Table
	for q := range r.Intn(5) {
		t.Questions = append(t.Questions, asking(1, 1+r.Intn(4)).Questions[0])
		t.Questions[q].Name = fmt.Sprint("q", q)
	}
	return withSomeRows(r, t, r.Intn(9))
}

// withSomeRows is a table of the same questions, with other rows.
func withSomeRows(r *rand.Rand, t Table, rows int) Table {
	t = clone(t)
	t.Rows = nil
	for range rows {
		row := Row{Out: string(rune('x' + r.Intn(3)))}
		for _, q := range t.Questions {
			row.Cells = append(row.Cells, someCell(r, len(q.Answers)))
		}
		t.Rows = append(t.Rows, row)
	}
	return t
}

// dealt is a great table, of whose rows one and only one fits each case; each says something else.
func dealt(r *rand.Rand) Table {
	t := asking(api.MaxCells, api.MaxCells)
	rows := []Row{{Cells: make([][]int, api.MaxCells), Out: "all"}}
	for q := range rows[0].Cells {
		rows[0].Cells[q] = upTo(api.MaxCells).numbers()
	}
	for len(rows) < api.MaxRows {
		i, q := r.Intn(len(rows)), r.Intn(api.MaxCells)
		cell := rows[i].Cells[q]
		if len(cell) < 2 {
			continue
		}
		other := Row{Cells: slices.Clone(rows[i].Cells), Out: fmt.Sprint("row ", len(rows))}
		cut := 1 + r.Intn(len(cell)-1)
		mixed := slices.Clone(cell)
		r.Shuffle(len(mixed), func(a, b int) { mixed[a], mixed[b] = mixed[b], mixed[a] })
		rows[i].Cells = slices.Clone(rows[i].Cells)
		rows[i].Cells[q], other.Cells[q] = sorted(mixed[:cut]), sorted(mixed[cut:])
		rows = append(rows, other)
	}
	r.Shuffle(len(rows), func(a, b int) { rows[a], rows[b] = rows[b], rows[a] })
	t.Rows = rows
	return t
}

func sorted(l []int) []int { return slices.Sorted(slices.Values(l)) }

// cornerOf a row: its first case, where it has numbers in all cells.
func cornerOf(r Row) []int {
	var c []int
	for _, cell := range r.Cells {
		c = append(c, cell[0])
	}
	return c
}

// nearlyAll is a great table whose rows are without as many answers to each question as others: it is hard to tell whether they fit all cases.
func nearlyAll(r *rand.Rand, answers int, share float64) Table {
	t := asking(api.MaxCells, answers)
	for i := range api.MaxRows {
		row := Row{Cells: make([][]int, api.MaxCells), Out: fmt.Sprint("row ", i)}
		t.Rows = append(t.Rows, row)
	}
	for q := range api.MaxCells {
		for n, i := range r.Perm(api.MaxRows) {
			cell := upTo(answers)
			if r.Float64() < share {
				cell &^= only(n % answers)
			}
			t.Rows[i].Cells[q] = cell.numbers()
		}
	}
	return t
}

// someCase of a table.
func someCase(r *rand.Rand, t Table) []int {
	var c []int
	for _, q := range t.Questions {
		c = append(c, r.Intn(len(q.Answers)))
	}
	return c
}

// isAhead tells whether a case stands ahead of another one.
func isAhead(a, b []int) bool { return slices.Compare(a, b) < 0 }

// wrong is a table that is not valid, and what is wrong with it.
type wrong struct {
	t    Table
	want error
}

func wrongTables() map[string]wrong {
	return map[string]wrong{
		"too many questions":      {asking(api.MaxCells+1, 1), api.ErrBound},
		"too many answers":        {asking(2, api.MaxCells+1), api.ErrBound},
		"too many rows":           {Table{Rows: slices.Repeat([]Row{{Out: "x"}}, api.MaxRows+1)}, api.ErrBound},
		"a name that is none":     {Table{Questions: []Question{{"Q", []string{"a"}}}}, api.ErrName},
		"no answers":              {Table{Questions: []Question{{"q", nil}}}, api.ErrKind},
		"a cell too few":          {Table{Questions: asking(2, 2).Questions, Rows: []Row{{make([][]int, 1), "x"}}}, api.ErrKind},
		"a number too great":      {Table{Questions: asking(1, 2).Questions, Rows: []Row{{[][]int{{2}}, "x"}}}, api.ErrKind},
		"numbers that fall":       {Table{Questions: asking(1, 2).Questions, Rows: []Row{{[][]int{{1, 0}}, "x"}}}, api.ErrOrder},
		"a row that says no line": {Table{Questions: asking(1, 2).Questions, Rows: []Row{{make([][]int, 1), strings.Repeat("x", api.MaxLine+1)}}}, api.ErrText},
	}
}
