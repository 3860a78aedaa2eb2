package gaps

import (
	"math"
	"slices"
	"strings"
	"testing"

	"statute/api"
)

func checkValid(t *testing.T, x Table, want error) {
	t.Helper()
	if err := Valid(x); err != want {
		t.Errorf("%+v: %v; want %v", x, err, want)
	}
}

func TestP140TablesThatAreValid(t *testing.T) {
	most := asking(api.MaxCells, api.MaxCells)
	for range api.MaxRows {
		most.Rows = append(most.Rows, Row{make([][]int, api.MaxCells), strings.Repeat("x", api.MaxLine)})
	}
	long := strings.Repeat("q", api.MaxWord)
	for _, x := range []Table{
		{},
		{Questions: []Question{}, Rows: []Row{}},
		{Rows: []Row{{nil, "x"}, {[][]int{}, "x"}}},
		asking(1, 1),
		most,
		{Questions: []Question{{"none", []string{"ask", "if", "always"}}, {"if", []string{"none_", "x9_", long}}, {long, []string{"if"}}}},
		{Questions: asking(2, 3).Questions, Rows: []Row{{[][]int{nil, {}}, "a ~ b"}, {[][]int{{0, 1, 2}, {1}}, "then"}, {[][]int{{0, 2}, {2}}, "x then y"}}},
	} {
		checkValid(t, x, nil)
	}
}

func TestP140WrongTables(t *testing.T) {
	for what, x := range wrongTables() {
		if err := Valid(x.t); err != x.want {
			t.Errorf("%s: %v; want %v", what, err, x.want)
		}
	}
	tooGreat := asking(3, 3)
	tooGreat.Questions[2].Answers = asking(1, api.MaxCells+1).Questions[0].Answers
	checkValid(t, tooGreat, api.ErrBound)
}

func TestP140WrongNames(t *testing.T) {
	for _, name := range []string{"", "then", "A", "aB", "9", "_a", "a b", "a-b", " a", "a ", "ä", "a\x00", strings.Repeat("q", api.MaxWord+1)} {
		checkValid(t, Table{Questions: []Question{{name, []string{"a"}}}}, api.ErrName)
		checkValid(t, Table{Questions: []Question{{"q", []string{"a", name}}}}, api.ErrName)
		checkValid(t, Table{Questions: []Question{{"q", []string{"a"}}, {"p", []string{name, "b"}}}}, api.ErrName)
	}
	checkValid(t, Table{Questions: []Question{{"q", []string{"none"}}}}, api.ErrName)
	checkValid(t, Table{Questions: []Question{{"q", []string{"a", "b", "a"}}}}, api.ErrName)
	checkValid(t, Table{Questions: []Question{{"q", []string{"a"}}, {"p", []string{"a"}}, {"q", []string{"b"}}}}, api.ErrName)
	// Answers may be called as those of another question, or as a question.
	checkValid(t, Table{Questions: []Question{{"q", []string{"a", "p"}}, {"p", []string{"q", "a"}}}}, nil)
}

func TestP140WrongRows(t *testing.T) {
	ask := asking(2, 3).Questions
	for _, x := range []struct {
		cells [][]int
		want  error
	}{
		{nil, api.ErrKind},
		{[][]int{nil}, api.ErrKind},
		{[][]int{nil, nil, nil}, api.ErrKind},
		{[][]int{nil, {3}}, api.ErrKind},
		{[][]int{{-1}, nil}, api.ErrKind},
		{[][]int{{0, 1, math.MaxInt}, nil}, api.ErrKind},
		{[][]int{nil, {math.MinInt}}, api.ErrKind},
		{[][]int{{0, 0}, nil}, api.ErrOrder},
		{[][]int{nil, {0, 2, 1}}, api.ErrOrder},
		{[][]int{nil, {0, 1, 2, 2}}, api.ErrOrder},
		{[][]int{nil, slices.Repeat([]int{1}, 100000)}, api.ErrOrder},
	} {
		checkValid(t, Table{ask, []Row{{[][]int{nil, nil}, "x"}, {x.cells, "x"}}}, x.want)
	}
	checkValid(t, Table{Rows: []Row{{[][]int{nil}, "x"}}}, api.ErrKind)
	for _, out := range []string{"", " ", " a", "a ", "a\n", "a\tb", "\x7f", "ä", "\xff", strings.Repeat("x", api.MaxLine+1)} {
		checkValid(t, Table{ask, []Row{{[][]int{nil, nil}, "x"}, {[][]int{nil, nil}, out}}}, api.ErrText)
	}
}

func TestP140AllOfOneKindAheadOfTheNext(t *testing.T) {
	wrong := []struct {
		want   error
		change func(x *Table)
	}{
		{api.ErrBound, func(x *Table) { x.Questions[1].Answers = asking(1, api.MaxCells+1).Questions[0].Answers }},
		{api.ErrName, func(x *Table) { x.Questions[1].Name = "q0" }},
		{api.ErrKind, func(x *Table) { x.Rows = append(x.Rows, Row{nil, "x"}) }},
		{api.ErrOrder, func(x *Table) { x.Rows[1].Cells[1] = []int{1, 0} }},
		{api.ErrText, func(x *Table) { x.Rows[0].Out = "" }},
	}
	for i, w := range wrong {
		x := asking(2, 2)
		x.Rows = []Row{{make([][]int, 2), "x"}, {make([][]int, 2), "x"}}
		for _, other := range wrong[i:] {
			other.change(&x)
		}
		checkValid(t, x, w.want)
	}
	// A question without answers is of a kind with the rows.
	checkValid(t, Table{Questions: []Question{{"a", nil}, {"B", nil}}}, api.ErrName)
	checkValid(t, Table{Questions: []Question{{"a", nil}}, Rows: []Row{{[][]int{nil}, ""}}}, api.ErrKind)
}
