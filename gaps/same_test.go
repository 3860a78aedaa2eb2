package gaps

import (
	"fmt"
	"math/rand"
	"reflect"
	"slices"
	"testing"

	"statute/api"
)

func TestP142Same(t *testing.T) {
	for _, x := range []struct{ a, b, want string }{
		{"", "", "[] true"},
		{"", "if age none then a\n", "[] true"},
		{"", "always then a\n", "[0 0] false"},
		{"always then a\n", "", "[0 0] false"},
		{"always then a\n", "always then b\n", "[0 0] false"},
		{"always then a\n", "if age child|adult|old then a\nalways then b\n", "[] true"},
		{"if age child then a\nalways then b\n", "if age adult|old then b\nalways then a\n", "[] true"},
		{"if age child then a\nif here no then b\n", "if here no then b\nif age child then a\n", "[0 1] false"},
		{"if age child then a\nif here no then a\n", "if here no then a\nif age child then a\n", "[] true"},
		{"if age child then a\n", "if age child|old, here yes then a\nif age child then a\n", "[2 0] false"},
		{"if age child then a\nif age adult, here no then b\n", "if age child then a\n", "[1 1] false"},
		{"if here no then a\nif age old then b\n", "if age old, here no then a\nif age old then b\nif here no then a\n", "[] true"},
	} {
		for _, turned := range []bool{false, true} {
			a, b := tableOf(t, asks+x.a), tableOf(t, asks+x.b)
			if turned {
				a, b = b, a
			}
			c, same, err := Same(a, b)
			if got := fmt.Sprint(c, same); got != x.want || err != nil {
				t.Errorf("%q, %q: %s, %v; want %s", x.a, x.b, got, err, x.want)
			}
		}
	}
}

func TestP142OtherQuestions(t *testing.T) {
	a := tableOf(t, asks+"always then x\n")
	for _, text := range []string{
		"",
		"always then x\n",
		"ask age: child, adult, old\nalways then x\n",
		"ask here: yes, no\nask age: child, adult, old\nalways then x\n",
		"ask age: child, adult, old\nask there: yes, no\nalways then x\n",
		"ask age: child, old, adult\nask here: yes, no\nalways then x\n",
		"ask age: child, adult\nask here: yes, no\nalways then x\n",
		asks + "ask q: a\nalways then x\n",
	} {
		b := tableOf(t, text)
		for _, pair := range [][2]Table{{a, b}, {b, a}} {
			if c, same, err := Same(pair[0], pair[1]); c != nil || same || err != api.ErrKind {
				t.Errorf("%q: %v, %v, %v", text, c, same, err)
			}
		}
	}
}

func TestP142TheFirstTableIsLookedAtFirst(t *testing.T) {
	tables := wrongTables()
	for _, x := range tables {
		for _, y := range tables {
			if c, same, err := Same(x.t, y.t); c != nil || same || err != x.want {
				t.Errorf("%v, %v, %v; want %v", c, same, err, x.want)
			}
		}
	}
}

func TestP142SameGoesCaseByCase(t *testing.T) {
	r := rand.New(rand.NewSource(142))
	sameOnes := 0
	for range 6000 {
		a := someTable(r)
		b := withSomeRows(r, a, r.Intn(7))
		switch r.Intn(3) {
		case 0:
			b = clone(a)
			r.Shuffle(len(b.Rows), func(i, k int) { b.Rows[i], b.Rows[k] = b.Rows[k], b.Rows[i] })
		case 1:
			if len(a.Rows) > 0 {
				b = lacking(a, r.Intn(len(a.Rows)))
			}
		}
		want := "[] true"
		for _, c := range allCases(a) {
			if saidPlainly(a, c) != saidPlainly(b, c) {
				want = fmt.Sprint(c, false)
				break
			}
		}
		c, same, err := Same(a, b)
		if got := fmt.Sprint(c, same); got != want || err != nil {
			t.Fatalf("%+v, %+v: %s, %v; want %s", a, b, got, err, want)
		}
		if same {
			sameOnes++
		}
	}
	if sameOnes < 500 || sameOnes > 5000 {
		t.Errorf("%d of 6000 are the same: too few of one kind", sameOnes)
	}
}

func TestP142SameOfGreatTables(t *testing.T) {
	r := rand.New(rand.NewSource(122))
	for range 5 {
		a := dealt(r)
		b := clone(a)
		r.Shuffle(len(b.Rows), func(i, k int) { b.Rows[i], b.Rows[k] = b.Rows[k], b.Rows[i] })
		if c, same, err := Same(a, b); c != nil || !same || err != nil {
			t.Fatalf("%v, %v, %v", c, same, err)
		}
		i := r.Intn(len(b.Rows))
		for _, other := range []Table{lacking(b, i), saying(b, i, "something else")} {
			if c, same, err := Same(a, other); !slices.Equal(c, cornerOf(b.Rows[i])) || same || err != nil {
				t.Fatalf("%v, %v, %v; want %v", c, same, err, cornerOf(b.Rows[i]))
			}
		}
		// Of two rows that part, it is the first case of both.
		k := (i + 1) % len(b.Rows)
		first := cornerOf(b.Rows[i])
		if other := cornerOf(b.Rows[k]); isAhead(other, first) {
			first = other
		}
		if c, same, err := Same(saying(saying(b, i, "one"), k, "two"), a); !slices.Equal(c, first) || same || err != nil {
			t.Fatalf("%v, %v, %v; want %v", c, same, err, first)
		}
	}
}

// checkParted checks that of the rows of a table that was parted no two fit one case, and that it says what it said.
func checkParted(t *testing.T, x, parted Table) {
	t.Helper()
	if !reflect.DeepEqual(clone(x).Questions, parted.Questions) {
		t.Fatalf("%+v: %+v", x.Questions, parted.Questions)
	}
	if c, same, err := Same(x, parted); !same || err != nil {
		t.Fatalf("%+v: %+v: %v, %v", x, parted, c, err)
	}
	other := clone(parted)
	for i := range other.Rows {
		other.Rows[i].Out = fmt.Sprint("row ", i)
	}
	if a, b, c, some, err := Clash(other); some || err != nil {
		t.Fatalf("%+v: %+v: rows %d and %d fit %v, %v", x, parted, a, b, c, err)
	}
}

func TestP142Parted(t *testing.T) {
	for _, rows := range []string{
		"",
		"always then a\n",
		"always then a\nalways then b\n",
		"if age none then a\n",
		"if age child then a\nalways then b\n",
		"if age child then a\nif here yes then b\nalways then c\n",
		"if age child then a\nif here yes then a\nalways then a\n",
		"if age child then a\nif here yes then b\nif age old then a\n",
	} {
		x := tableOf(t, asks+rows)
		parted, err := Parted(x)
		if err != nil {
			t.Errorf("%q: %v", rows, err)
			continue
		}
		checkParted(t, x, parted)
	}
}

func TestP142PartedSaysTheSameOfAllCases(t *testing.T) {
	r := rand.New(rand.NewSource(1422))
	few := 0
	for range 3000 {
		x := withSomeRows(r, someTable(r), r.Intn(15))
		parted, err := Parted(x)
		if len(allCases(x)) <= api.MaxRows {
			few++
		}
		if err == api.ErrBound && len(allCases(x)) > api.MaxRows {
			continue
		}
		if err != nil {
			t.Fatalf("%+v: %v", x, err)
		}
		for _, c := range allCases(x) {
			fit := 0
			for _, row := range parted.Rows {
				if fitsPlainly(row, c) {
					fit++
				}
			}
			if fit > 1 || saidPlainly(parted, c) != saidPlainly(x, c) {
				t.Fatalf("%+v: %+v: %v", x, parted, c)
			}
		}
		checkParted(t, x, parted)
	}
	if few < 1000 {
		t.Errorf("%d of 3000 are small", few)
	}
}

// TestP142PartedWhereEachCaseIsARow: 60 cases, of each of which something else is said than of those beside it.
func TestP142PartedWhereEachCaseIsARow(t *testing.T) {
	x := asking(4, 2)
	x.Questions[2].Answers, x.Questions[3].Answers = asking(1, 3).Questions[0].Answers, asking(1, 5).Questions[0].Answers
	cases := allCases(x)
	if len(cases) != api.MaxRows {
		t.Fatal(len(cases))
	}
	for i, c := range cases {
		row := Row{Out: fmt.Sprint("case ", i)}
		for _, n := range c {
			row.Cells = append(row.Cells, []int{n})
		}
		x.Rows = append(x.Rows, row)
	}
	parted, err := Parted(x)
	if err != nil || len(parted.Rows) != api.MaxRows {
		t.Fatal(len(parted.Rows), err)
	}
	checkParted(t, x, parted)
}

func TestP142PartedOfGreatTables(t *testing.T) {
	r := rand.New(rand.NewSource(123))
	all := Row{make([][]int, api.MaxCells), "else"}
	for range 5 {
		x := dealt(r)
		parted, err := Parted(x)
		if err != nil || len(parted.Rows) != len(x.Rows) {
			t.Fatal(len(parted.Rows), err)
		}
		checkParted(t, x, parted)
		// What says the same of all cases is one row, whatever stands ahead of it.
		same := clone(x)
		for i := range same.Rows {
			same.Rows[i].Out = "else"
		}
		same.Rows[len(same.Rows)-1] = all
		parted, err = Parted(same)
		if err != nil || len(parted.Rows) != 1 {
			t.Fatal(len(parted.Rows), err)
		}
		checkParted(t, same, parted)
	}
	// One question behind the other, and what is left.
	x := asking(api.MaxCells, api.MaxCells)
	for q := range x.Questions {
		row := Row{make([][]int, api.MaxCells), fmt.Sprint("row ", q)}
		row.Cells[q] = []int{q, 11}[:1+min(1, 11-q)]
		x.Rows = append(x.Rows, row)
	}
	x.Rows = append(x.Rows, all)
	parted, err := Parted(x)
	if err != nil {
		t.Fatal(err)
	}
	checkParted(t, x, parted)
}

func TestP142NoPartedTableIsKnown(t *testing.T) {
	x := asking(api.MaxCells, api.MaxCells)
	for q := 0; q < api.MaxCells; q += 2 {
		row := Row{make([][]int, api.MaxCells), fmt.Sprint("row ", q)}
		row.Cells[q], row.Cells[q+1] = []int{0}, []int{0}
		x.Rows = append(x.Rows, row)
	}
	x.Rows = append(x.Rows, Row{make([][]int, api.MaxCells), "else"})
	if parted, err := Parted(x); !reflect.DeepEqual(parted, Table{}) || err != api.ErrBound {
		t.Error(parted, err)
	}
}

func TestP4PartedIsNewMemory(t *testing.T) {
	x := tableOf(t, asks+"if age child then a\nif here yes then b\n")
	first, err := Parted(x)
	if err != nil {
		t.Fatal(err)
	}
	was := clone(first)
	x.Questions[0].Answers[0], x.Rows[0].Cells[0][0] = "blot", 2
	if !reflect.DeepEqual(first, was) {
		t.Errorf("what was answered shows a later change: %+v", first)
	}
	x = tableOf(t, asks+"if age child then a\nif here yes then b\n")
	for i := range first.Rows {
		for q := range first.Rows[i].Cells {
			for n := range first.Rows[i].Cells[q] {
				first.Rows[i].Cells[q][n] = 99
			}
			_ = append(first.Rows[i].Cells[q], 98)
		}
	}
	first.Questions[0].Answers[1] = "blot"
	if second, err := Parted(x); !reflect.DeepEqual(second, was) || err != nil {
		t.Errorf("%+v, %v", second, err)
	}
}
