package gaps

import (
	"errors"
	"fmt"
	"math/rand"
	"reflect"
	"strings"
	"testing"

	"statute/api"
)

func TestP143Write(t *testing.T) {
	for _, x := range []struct {
		t    Table
		want string
	}{
		{Table{}, ""},
		{Table{Rows: []Row{{nil, "x"}}}, "always then x\n"},
		{asking(2, 1), "ask q0: a0\nask q1: a0\n"},
		{
			Table{asking(2, 3).Questions, []Row{
				{[][]int{nil, nil}, "all of them"},
				{[][]int{{0, 2}, nil}, "x then y"},
				{[][]int{nil, {1}}, "x, y|z: if"},
				{[][]int{{1}, {0, 1, 2}}, "then"},
				{[][]int{{}, {}}, "x"},
				{[][]int{nil, {}}, "x"},
			}},
			"ask q0: a0, a1, a2\nask q1: a0, a1, a2\nalways then all of them\nif q0 a0|a2 then x then y\nif q1 a1 then x, y|z: if\nif q0 a1, q1 a0|a1|a2 then then\nif q0 none, q1 none then x\nif q1 none then x\n",
		},
	} {
		if text, err := Write(x.t); text != x.want || err != nil {
			t.Errorf("%+v: %q, %v; want %q", x.t, text, err, x.want)
		}
		for _, text := range []string{x.want, strings.TrimSuffix(x.want, "\n")} {
			if got, err := Read(text); !reflect.DeepEqual(clone(got), clone(withCells(x.t))) || err != nil {
				t.Errorf("%q: %+v, %v; want %+v", text, got, err, x.t)
			}
		}
	}
}

// withCells is a table whose rows have lists of cells, also where they are empty.
func withCells(t Table) Table {
	t = clone(t)
	for i := range t.Rows {
		if t.Rows[i].Cells == nil {
			t.Rows[i].Cells = [][]int{}
		}
	}
	return t
}

func TestP143WhatIsWrittenIsRead(t *testing.T) {
	r := rand.New(rand.NewSource(143))
	for range 2000 {
		x := withCells(someTable(r))
		text, err := Write(x)
		if err != nil {
			t.Fatalf("%+v: %v", x, err)
		}
		if got, err := Read(text); !reflect.DeepEqual(got, x) || err != nil {
			t.Fatalf("%q: %+v, %v; want %+v", text, got, err, x)
		}
	}
}

func TestP143WriteWhatIsWrong(t *testing.T) {
	for what, x := range wrongTables() {
		if text, err := Write(x.t); text != "" || err != x.want {
			t.Errorf("%s: %q, %v; want %v", what, text, err, x.want)
		}
	}
}

// long is a table whose text has so many bytes: some 30000.
func long(t *testing.T, bytes int) Table {
	x := asking(api.MaxCells, api.MaxCells)
	for range api.MaxRows {
		row := Row{make([][]int, api.MaxCells), "x"}
		for q := range 8 {
			row.Cells[q] = upTo(api.MaxCells).numbers()
		}
		x.Rows = append(x.Rows, row)
	}
	text, err := Write(x)
	if err != nil {
		t.Fatal(err)
	}
	left := bytes - len(text)
	for i := range x.Rows {
		more := min(left, api.MaxLine-1)
		x.Rows[i].Out += strings.Repeat("x", more)
		left -= more
	}
	return x
}

func TestP143NoMoreThanMaxTextBytes(t *testing.T) {
	x := long(t, api.MaxText)
	text, err := Write(x)
	if len(text) != api.MaxText || err != nil {
		t.Fatal(len(text), err)
	}
	if got, err := Read(text); !reflect.DeepEqual(got, x) || err != nil {
		t.Error(err)
	}
	last := &x.Rows[len(x.Rows)-1]
	last.Out += "x"
	if Valid(x) != nil {
		t.Fatal("the row is too long")
	}
	if text, err := Write(x); text != "" || err != api.ErrBound {
		t.Error(len(text), err)
	}
	checkFault(t, strings.TrimSuffix(text, "\n")+"x\n", 0, api.ErrBound)
	// Also where the text would be wrong, and where only a line's end is too much.
	checkFault(t, strings.Repeat("?\n", api.MaxText), 0, api.ErrBound)
	checkFault(t, strings.TrimSuffix(text, "\n")+"x", -2, nil)
}

// checkFault checks what is wrong with a text, and where; -2: nothing is.
func checkFault(t *testing.T, text string, at int, want error) {
	t.Helper()
	x, err := Read(text)
	if at == -2 {
		if err != nil {
			t.Errorf("%.300q: %v", text, err)
		}
		return
	}
	var f *api.Fault
	if !errors.As(err, &f) || f.At != at || f.Err != want || !reflect.DeepEqual(x, Table{}) {
		t.Errorf("%.300q: %+v, %v %+v; want %v at %d", text, x, err, f, want, at)
	}
}

func TestP143LinesThatAreNone(t *testing.T) {
	for _, line := range []string{
		"", " ", "x", "ask", "ask ", "ask q", "ask q:", "ask q:a", "ask: a", "Ask q: a", " ask q: a", "asks q: a", "ask\tq: a",
		"always", "always then", "always  then x", "Always then x", " always then x", "always thenx", "alwaysthen x",
		"if", "if ", "if age child", "if age child then", "if age child thenx", "if age childthen x", " if age child then x", "If age child then x", "if then x", "age child then x",
		"if age then x", "if  then x", "if age, here no then x", "if age child, here then x", "if age child,  then x", "if age child, , here no then x", "if ,  then x",
		"if age\tchild then x",
	} {
		for _, rest := range []string{"\n", "\nalways then x\n", "\n?\n"} {
			checkFault(t, asks+line+rest, 2, api.ErrText)
		}
		if line != "" {
			checkFault(t, asks+line, 2, api.ErrText)
		}
	}
}

func TestP143LinesThatAreWrong(t *testing.T) {
	for _, x := range []struct {
		line string
		want error
	}{
		{"if sex child then x", api.ErrName},
		{"if Age child then x", api.ErrName},
		{"if  age child then x", api.ErrName},
		{"if age boy then x", api.ErrName},
		{"if age  child then x", api.ErrName},
		{"if age child  then x", api.ErrName},
		{"if age child, then x", api.ErrName},
		{"if age then then x", api.ErrText},
		{"if age , here no then x", api.ErrName},
		{"if age yes then x", api.ErrName},
		{"if age child|boy then x", api.ErrName},
		{"if age child|none then x", api.ErrName},
		{"if age none|child then x", api.ErrName},
		{"if age child| old then x", api.ErrName},
		{"if age child,here no, x then y", api.ErrName},
		{"if age child||old then x", api.ErrName},
		{"if age | then x", api.ErrName},
		{"if age child here yes then x", api.ErrName},
		{"if age old|child then x", api.ErrOrder},
		{"if age old|old then x", api.ErrOrder},
		{"if age child|old|adult then x", api.ErrOrder},
		{"if here yes, age old then x", api.ErrOrder},
		{"if age old, age child then x", api.ErrOrder},
		{"if age old, here no, here no then x", api.ErrOrder},
		// In a cell: from the left.
		{"if age boy|old|child then x", api.ErrName},
		{"if age old|child|boy then x", api.ErrOrder},
		// Cell by cell.
		{"if sex x, age then x", api.ErrName},
		{"if age, sex x then x", api.ErrText},
		{"if age old|child, sex x then x", api.ErrOrder},
		{"if age boy, age boy then x", api.ErrName},
		{"if here no, age boy then x", api.ErrOrder},
		{"if here no, age then x", api.ErrText},
		{"if here no, sex no then x", api.ErrName},
	} {
		checkFault(t, asks+x.line, 2, x.want)
		checkFault(t, asks+"always then x\n"+x.line+"\n?\n", 3, x.want)
		checkFault(t, asks+x.line+"\nalways then \n", 2, x.want)
	}
	// CELLS go up to the first ` then `.
	checkFault(t, asks+"if age child then age boy then x\n", -2, nil)
	checkFault(t, "if q a then x\n", 0, api.ErrName)
}

func TestP143AQuestionBehindARow(t *testing.T) {
	checkFault(t, asks+"always then x\nask q: a\n", 3, api.ErrText)
	checkFault(t, "always then x\nask q: a\n", 1, api.ErrText)
	checkFault(t, asks+"if age old then x\nask age: B\n?\n", 3, api.ErrText)
}

func TestP143OneTooMany(t *testing.T) {
	questions := ""
	for i := range api.MaxCells {
		questions += fmt.Sprintf("ask q%d: a, b\n", i)
	}
	checkFault(t, questions, -2, nil)
	checkFault(t, questions+"ask q: a\n", api.MaxCells, api.ErrBound)
	checkFault(t, questions+"ask q0: B\n?\n", api.MaxCells, api.ErrBound)
	checkFault(t, questions+"ask q\n", api.MaxCells, api.ErrText)
	checkFault(t, questions+"always then x\nask q: a\n", api.MaxCells+1, api.ErrText)
	rows := questions + strings.Repeat("if q1 a then x\n", api.MaxRows)
	at := api.MaxCells + api.MaxRows
	checkFault(t, rows, -2, nil)
	checkFault(t, rows+"always then x\n", at, api.ErrBound)
	checkFault(t, rows+"if q0 a then x\n", at, api.ErrBound)
	checkFault(t, rows+"if q0 a then \n?\n", at, api.ErrBound)
	checkFault(t, rows+"if q0 c then x\n", at, api.ErrName)
	checkFault(t, rows+"if q0 b|a then x\n", at, api.ErrOrder)
	checkFault(t, rows+"if q0 then x\n", at, api.ErrText)
	checkFault(t, rows+"ask q: a\n", at, api.ErrText)
}

func TestP143AtLastWhatValidSays(t *testing.T) {
	for text, want := range map[string]error{
		"ask q: a, b, c, d, e, f, g, h, i, j, k, l, m\n": api.ErrBound,
		"ask Q: a\n":                      api.ErrName,
		"ask : a\n":                       api.ErrName,
		"ask my age: a\n":                 api.ErrName,
		"ask then: a\n":                   api.ErrName,
		"ask q: \n":                       api.ErrName,
		"ask q: a,b\n":                    api.ErrName,
		"ask q: a, \n":                    api.ErrName,
		"ask q:  a\n":                     api.ErrName,
		"ask q: a: b\n":                   api.ErrName,
		"ask q: then\n":                   api.ErrName,
		"ask q: none\n":                   api.ErrName,
		"ask q: none\nif q none then x\n": api.ErrName,
		"ask q: a, a\n":                   api.ErrName,
		"ask q: a\nask q: b\n":            api.ErrName,
		"always then \n":                  api.ErrText,
		"always then ":                    api.ErrText,
		"always then  x\n":                api.ErrText,
		"always then x \n":                api.ErrText,
		"always then x\r\n":               api.ErrText,
		"always then \xff\n":              api.ErrText,
		asks + "if age old then \n":       api.ErrText,
		asks + "if age old then x\x00\n":  api.ErrText,
		"ask Q: a\nif Q a then \n":        api.ErrName,
		"ask q: A\nif q A then x\n":       api.ErrName,
		"always then " + strings.Repeat("x", api.MaxLine+1) + "\n": api.ErrText,
	} {
		checkFault(t, text, -1, want)
	}
	// What is wrong with a line comes ahead of that.
	checkFault(t, "ask Q: a\n?\n", 1, api.ErrText)
	checkFault(t, "ask q: A, A\nif q A|A then x\n", 1, api.ErrOrder)
}

func TestP143ReadTable(t *testing.T) {
	got := tableOf(t, "ask age: child, adult, old\nask here: yes, no\nask if: then_, if\nif age child|old, if if then pay\nif here none then if x then y\nalways then no")
	want := Table{
		[]Question{{"age", []string{"child", "adult", "old"}}, {"here", []string{"yes", "no"}}, {"if", []string{"then_", "if"}}},
		[]Row{{[][]int{{0, 2}, nil, {1}}, "pay"}, {[][]int{nil, {}, nil}, "if x then y"}, {[][]int{nil, nil, nil}, "no"}},
	}
	if !reflect.DeepEqual(got, want) {
		t.Errorf("%+v; want %+v", got, want)
	}
	if x, err := Read(""); !reflect.DeepEqual(x, Table{}) || err != nil {
		t.Error(x, err)
	}
	checkFault(t, "\n", 0, api.ErrText)
	checkFault(t, "\n\n", 0, api.ErrText)
	checkFault(t, "always then x\n\n", 1, api.ErrText)
}

func TestP1ReadEndsOnAnything(t *testing.T) {
	r := rand.New(rand.NewSource(1))
	pieces := []string{"ask ", "if ", "always", " then ", "then", ": ", ", ", "|", " ", "\n", "age", "here", "child", "old", "yes", "none", "x", "ä", "\x00", "\xff"}
	read := 0
	for range 100000 {
		text := ""
		if r.Intn(2) == 0 {
			text = asks
		}
		for range r.Intn(9) {
			text += pieces[r.Intn(len(pieces))]
		}
		x, err := Read(text)
		if err != nil {
			continue
		}
		read++
		// What was read is written as it was.
		if again, err := Write(x); strings.TrimSuffix(again, "\n") != strings.TrimSuffix(text, "\n") || err != nil {
			t.Fatalf("%q: %q, %v", text, again, err)
		}
	}
	if read < 100 {
		t.Errorf("%d texts are right", read)
	}
}

func TestP4WhatIsReadIsNewMemory(t *testing.T) {
	text := asks + "if age child|old then a\nif age child|old then a\nif here none then b\n"
	x, y := tableOf(t, text), tableOf(t, text)
	x.Questions[0].Answers[0] = "blot"
	x.Rows[0].Cells[0][1] = 7
	x.Rows[0].Cells[1] = []int{1}
	_ = append(x.Rows[2].Cells[1], 5)
	if !reflect.DeepEqual(y, tableOf(t, text)) || !reflect.DeepEqual(x.Rows[1], y.Rows[1]) {
		t.Errorf("memory is shared: %+v", x)
	}
}
