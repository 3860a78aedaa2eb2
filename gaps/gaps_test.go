package gaps

import (
	"fmt"
	"math"
	"math/rand"
	"reflect"
	"slices"
	"testing"

	"statute/api"
)

const asks = "ask age: child, adult, old\nask here: yes, no\n"

func TestP141Gap(t *testing.T) {
	for rows, want := range map[string]string{
		"":                "[0 0] true",
		"always then a\n": "[] false",
		"if age none then a\nif here none then b\n":     "[0 0] true",
		"if age child then a\n":                         "[1 0] true",
		"if here yes then a\n":                          "[0 1] true",
		"if here yes then a\nif age child|old then b\n": "[1 1] true",
		"if here yes then a\nif age child|old then b\nif age adult, here no then c\n":            "[] false",
		"if age child|adult then a\nif here no then a\n":                                         "[2 0] true",
		"if age child|adult|old then a\n":                                                        "[] false",
		"if age old then a\nif age child, here yes then a\nif age adult|old, here yes then a\n":  "[0 1] true",
		"if age old then a\nif age child|adult, here yes then a\nif age child, here no then b\n": "[1 1] true",
	} {
		c, some, err := Gap(tableOf(t, asks+rows))
		if got := fmt.Sprint(c, some); got != want || err != nil {
			t.Errorf("%q: %s, %v; want %s", rows, got, err, want)
		}
	}
}

func TestP141Clash(t *testing.T) {
	for rows, want := range map[string]string{
		"":                                             "0 0 [] false",
		"always then a\nalways then a\n":               "0 0 [] false",
		"always then a\nalways then b\n":               "0 1 [0 0] true",
		"always then a\nif age none then b\n":          "0 0 [] false",
		"if age none then a\nalways then b\n":          "0 0 [] false",
		"if age child then a\nif age old then b\n":     "0 0 [] false",
		"if age adult|old then a\nif here no then b\n": "0 1 [1 1] true",
		"if age old then a\nif age child then b\nif here no then c\nif age child then d\n":            "0 2 [2 1] true",
		"if age old then a\nif age child then b\nif age child then c\nif age old then c\n":            "0 3 [2 0] true",
		"if age old then a\nif age child then b\nif age child then b\nif age child|adult then c\n":    "1 3 [0 0] true",
		"if age child|old, here no then a\nif age adult|old then a\nif here yes then b\n":             "1 2 [1 0] true",
		"if age child, here no then a\nif age adult, here no then b\nif age child, here yes then b\n": "0 0 [] false",
	} {
		a, b, c, some, err := Clash(tableOf(t, asks+rows))
		if got := fmt.Sprint(a, b, c, some); got != want || err != nil {
			t.Errorf("%q: %s, %v; want %s", rows, got, err, want)
		}
	}
}

func TestP141Idle(t *testing.T) {
	for rows, want := range map[string]string{
		"":                               "[]",
		"always then a\n":                "[]",
		"if age none then a\n":           "[0]",
		"always then a\nalways then a\n": "[1]",
		"if age child then a\nif age child|old then a\nif age old then b\n":                                                   "[2]",
		"if age child then a\nif age child|old then a\nif here yes then b\n":                                                  "[]",
		"if age child|old then a\nif age adult then a\nalways then b\nif here no then c\n":                                    "[2 3]",
		"if here yes then a\nif age old then b\nif age child|adult, here no then c\nif here no then d\nif age adult then d\n": "[3 4]",
	} {
		idle, err := Idle(tableOf(t, asks+rows))
		if got := fmt.Sprint(idle); got != want || err != nil {
			t.Errorf("%q: %s, %v; want %s", rows, got, err, want)
		}
	}
}

func TestP141Says(t *testing.T) {
	x := tableOf(t, asks+"if age child|old, here yes then pay\nif age child then ask again\nif here none then never\nif age adult then no\n")
	for c, want := range map[[2]int]string{{0, 0}: "pay", {0, 1}: "ask again", {1, 0}: "no", {1, 1}: "no", {2, 0}: "pay"} {
		if got, ok := x.Says(c[:]); got != want || !ok {
			t.Errorf("%v: %q, %v; want %q", c, got, ok, want)
		}
	}
	for _, c := range [][]int{{2, 1}, nil, {}, {0}, {0, 0, 0}, {3, 0}, {0, 2}, {-1, 0}, {0, -1}, {math.MaxInt, math.MinInt}, make([]int, 100000)} {
		if got, ok := x.Says(c); got != "" || ok {
			t.Errorf("%v: %q, %v", c, got, ok)
		}
	}
	if got, ok := (Table{Rows: []Row{{nil, "x"}}}).Says(nil); got != "x" || !ok {
		t.Error(got, ok)
	}
	if got, ok := (Table{}).Says(nil); got != "" || ok {
		t.Error(got, ok)
	}
	// A table that is not valid says nothing, also of what its other rows fit.
	x.Rows = append(x.Rows, Row{})
	if got, ok := x.Says([]int{0, 0}); got != "" || ok {
		t.Error(got, ok)
	}
}

func TestP141NoQuestions(t *testing.T) {
	none, one := Table{}, Table{Rows: []Row{{nil, "x"}, {nil, "y"}}}
	if c, some, err := Gap(none); len(c) != 0 || !some || err != nil {
		t.Error(c, some, err)
	}
	if c, some, err := Gap(one); c != nil || some || err != nil {
		t.Error(c, some, err)
	}
	if a, b, c, some, err := Clash(one); a != 0 || b != 1 || len(c) != 0 || !some || err != nil {
		t.Error(a, b, c, some, err)
	}
	if idle, err := Idle(one); !slices.Equal(idle, []int{1}) || err != nil {
		t.Error(idle, err)
	}
	if c, same, err := Same(none, one); len(c) != 0 || same || err != nil {
		t.Error(c, same, err)
	}
	if c, same, err := Same(one, Table{Rows: []Row{{nil, "x"}}}); c != nil || !same || err != nil {
		t.Error(c, same, err)
	}
	if p, err := Parted(one); !reflect.DeepEqual(p.Rows, []Row{{[][]int{}, "x"}}) || err != nil {
		t.Error(p, err)
	}
}

func TestP141AndP142WrongTables(t *testing.T) {
	good := asking(1, 2)
	for what, x := range wrongTables() {
		if c, some, err := Gap(x.t); c != nil || some || err != x.want {
			t.Errorf("%s: Gap: %v, %v, %v", what, c, some, err)
		}
		if a, b, c, some, err := Clash(x.t); a != 0 || b != 0 || c != nil || some || err != x.want {
			t.Errorf("%s: Clash: %v, %v, %v, %v, %v", what, a, b, c, some, err)
		}
		if idle, err := Idle(x.t); idle != nil || err != x.want {
			t.Errorf("%s: Idle: %v, %v", what, idle, err)
		}
		for _, c := range allCases(asking(min(len(x.t.Questions), 2), 2)) {
			if got, ok := x.t.Says(c); got != "" || ok {
				t.Errorf("%s: Says: %q, %v", what, got, ok)
			}
		}
		for _, pair := range [][2]Table{{x.t, good}, {good, x.t}, {x.t, x.t}, {x.t, {Rows: []Row{{}}}}} {
			if c, same, err := Same(pair[0], pair[1]); c != nil || same || err != x.want {
				t.Errorf("%s: Same: %v, %v, %v", what, c, same, err)
			}
		}
		if p, err := Parted(x.t); !reflect.DeepEqual(p, Table{}) || err != x.want {
			t.Errorf("%s: Parted: %v, %v", what, p, err)
		}
	}
}

// gapPlainly, clashPlainly and idlePlainly go through all cases.
func gapPlainly(x Table) string {
	for _, c := range allCases(x) {
		if saidPlainly(x, c) == "" {
			return fmt.Sprint(c, true)
		}
	}
	return "[] false"
}

func clashPlainly(x Table) string {
	for a, r := range x.Rows {
		for b := a + 1; b < len(x.Rows); b++ {
			for _, c := range allCases(x) {
				if r.Out != x.Rows[b].Out && fitsPlainly(r, c) && fitsPlainly(x.Rows[b], c) {
					return fmt.Sprint(a, b, c, true)
				}
			}
		}
	}
	return "0 0 [] false"
}

func idlePlainly(x Table) string {
	idle := []int{}
	for i, r := range x.Rows {
		ahead := Table{x.Questions, x.Rows[:i]}
		isFirst := func(c []int) bool { return fitsPlainly(r, c) && saidPlainly(ahead, c) == "" }
		if !slices.ContainsFunc(allCases(x), isFirst) {
			idle = append(idle, i)
		}
	}
	return fmt.Sprint(idle)
}

func TestP141GoesCaseByCase(t *testing.T) {
	r := rand.New(rand.NewSource(141))
	for range 3000 {
		x := someTable(r)
		g, some, err := Gap(x)
		if got, want := fmt.Sprint(g, some), gapPlainly(x); got != want || err != nil {
			t.Fatalf("%+v: gap %s, %v; want %s", x, got, err, want)
		}
		a, b, c, some, err := Clash(x)
		if got, want := fmt.Sprint(a, b, c, some), clashPlainly(x); got != want || err != nil {
			t.Fatalf("%+v: clash %s, %v; want %s", x, got, err, want)
		}
		idle, err := Idle(x)
		if got, want := fmt.Sprint(idle), idlePlainly(x); got != want || err != nil {
			t.Fatalf("%+v: idle %s, %v; want %s", x, got, err, want)
		}
		for _, c := range allCases(x) {
			if got, ok := x.Says(c); got != saidPlainly(x, c) || ok != (got != "") {
				t.Fatalf("%+v: of %v %q, %v", x, c, got, ok)
			}
		}
	}
}

func TestP141GreatTables(t *testing.T) {
	r := rand.New(rand.NewSource(12))
	for range 20 {
		x := dealt(r)
		if c, some, err := Gap(x); c != nil || some || err != nil {
			t.Fatalf("%v, %v, %v", c, some, err)
		}
		if _, _, c, some, err := Clash(x); some || err != nil {
			t.Fatalf("%v, %v, %v", c, some, err)
		}
		if idle, err := Idle(x); idle != nil || err != nil {
			t.Fatalf("%v, %v", idle, err)
		}
		// Without a row all that it fits is a gap.
		i := r.Intn(len(x.Rows))
		y := lacking(x, i)
		if c, some, err := Gap(y); !slices.Equal(c, cornerOf(x.Rows[i])) || !some || err != nil {
			t.Fatalf("%v, %v, %v; want %v", c, some, err, cornerOf(x.Rows[i]))
		}
		// A row for all cases has those alone; ahead of the others, it has all of them.
		all := Row{make([][]int, api.MaxCells), "else"}
		y.Rows = append(y.Rows, all)
		if idle, err := Idle(y); idle != nil || err != nil {
			t.Fatalf("%v, %v", idle, err)
		}
		y.Rows[i], y.Rows[len(y.Rows)-1] = y.Rows[len(y.Rows)-1], y.Rows[i]
		if idle, err := Idle(y); len(idle) != len(y.Rows)-1-i || idle[0] != i+1 && len(idle) > 0 || err != nil {
			t.Fatalf("%v, %v", idle, err)
		}
	}
}

func TestP1WhatIsHardToTellComesToAnEnd(t *testing.T) {
	r := rand.New(rand.NewSource(1))
	for _, x := range []Table{nearlyAll(r, 12, 1), nearlyAll(r, 12, .8), nearlyAll(r, 8, .8), nearlyAll(r, 8, .9), nearlyAll(r, 6, 1)} {
		c, some, err := Gap(x)
		if err != nil || some && saidPlainly(x, c) != "" {
			t.Fatal(c, some, err)
		}
		for range 10000 {
			if other := someCase(r, x); saidPlainly(x, other) == "" && (!some || isAhead(other, c)) {
				t.Fatalf("%v, %v; but no row fits %v", c, some, other)
			}
		}
		if _, err := Parted(x); err != api.ErrBound {
			t.Error(err)
		}
	}
}

func TestP2AndP4TablesAreOnlyRead(t *testing.T) {
	r := rand.New(rand.NewSource(4))
	for range 300 {
		x, y := someTable(r), Table{}
		y = withSomeRows(r, x, 5)
		all := func() []any {
			gap, some, _ := Gap(x)
			a, b, clash, both, _ := Clash(x)
			idle, _ := Idle(x)
			apart, same, _ := Same(x, y)
			parted, _ := Parted(x)
			text, _ := Write(x)
			return []any{gap, some, a, b, clash, both, idle, apart, same, parted, text}
		}
		was, other := clone(x), clone(y)
		first := all()
		if !reflect.DeepEqual(x, was) || !reflect.DeepEqual(y, other) {
			t.Fatalf("%+v became %+v; %+v became %+v", was, x, other, y)
		}
		if second := all(); !reflect.DeepEqual(first, second) {
			t.Fatalf("%+v: %v, then %v", x, first, second)
		}
	}
}
