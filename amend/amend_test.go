package amend

import (
	"errors"
	"math"
	"math/rand"
	"reflect"
	"slices"
	"strconv"
	"strings"
	"testing"

	"statute/api"
	"statute/script"
)

// houses is the form of a law with some of everything.
const houses = "law Of houses\n| who reads\n1 First\n  | one two one\n  | three\n  a Doors\n    | x\n    i\n  b\n2\n  | aaa\n"

// lawOf is the law of a form.
func lawOf(t *testing.T, form string) api.Item {
	t.Helper()
	l, err := script.Read(form)
	if err != nil {
		t.Fatalf("%q: %v", form, err)
	}
	return l
}

// formOf is the form of a law.
func formOf(t *testing.T, l api.Item) string {
	t.Helper()
	form, err := script.Write(l)
	if err != nil {
		t.Fatalf("%v: %v", l, err)
	}
	return form
}

// changed is a form with one text in the place of another one, which stands in it.
func changed(t *testing.T, form, old, young string) string {
	t.Helper()
	if strings.Count(form, old) != 1 {
		t.Fatalf("%q does not stand just once in %q", old, form)
	}
	return strings.Replace(form, old, young, 1)
}

// checkApplied holds what comes of changes against a form.
func checkApplied(t *testing.T, form string, want string, ops ...api.Op) {
	t.Helper()
	got, err := Apply(lawOf(t, form), ops)
	if err != nil || formOf(t, got) != want {
		t.Errorf("%+v: %v, %v; want %q", ops, got, err, want)
	}
}

// checkRefused holds a change, behind one that does nothing, against its error.
func checkRefused(t *testing.T, form string, o api.Op, want error) {
	t.Helper()
	got, err := Apply(lawOf(t, form), []api.Op{{Kind: api.OLabel, Path: "1", Text: "1"}, o})
	f, ok := err.(*api.Fault)
	if !ok || f.Err != want || f.At != 1 || !reflect.DeepEqual(got, api.Item{}) {
		t.Errorf("%.80v: %v, %v; want %v", o, got, err, want)
	}
}

// tooLong is a text that is no line, and is too long for one.
func tooLong() string { return strings.Repeat(" ", api.MaxLine+1) }

// longest is a line that is as long as a line can be.
func longest() string { return strings.Repeat("x", api.MaxLine) }

// chain is a provision with others in it, so many deep with itself.
func chain(label string, deep int) api.Item {
	it := api.Item{Label: label}
	if deep > 1 {
		it.Kids = []api.Item{chain("a", deep-1)}
	}
	return it
}

// wide is a law with so many provisions.
func wide(count int) api.Item {
	var l api.Item
	for i := range count {
		l.Kids = append(l.Kids, api.Item{Label: strconv.Itoa(i + 1)})
	}
	return l
}

// endless is a provision that lies within itself.
func endless(label string) api.Item {
	kids := []api.Item{{Label: "a"}}
	kids[0].Kids = kids
	return api.Item{Label: label, Kids: kids}
}

func TestP40Headings(t *testing.T) {
	checkApplied(t, houses, changed(t, houses, "law Of houses", "law Of homes"), api.Op{Kind: api.OHead, Text: "Of homes"})
	checkApplied(t, houses, changed(t, houses, "law Of houses", "law"), api.Op{Kind: api.OHead})
	checkApplied(t, houses, changed(t, houses, "a Doors", "a Of doors"), api.Op{Kind: api.OHead, Path: "1/a", Text: "Of doors"})
	checkApplied(t, houses, changed(t, houses, "2\n", "2 "+longest()+"\n"), api.Op{Kind: api.OHead, Path: "2", Text: longest()})
	for _, path := range []string{"3", "/", "/1", "1/", "1//a", "a", "law", "1/a/i/i", " 1", "\xff"} {
		checkRefused(t, houses, api.Op{Kind: api.OHead, Path: path, Text: tooLong()}, api.ErrPath)
	}
	for _, text := range []string{" ", " a", "a ", "a\n", "ä", "\x7f", "\x1f"} {
		checkRefused(t, houses, api.Op{Kind: api.OHead, Path: "1", Text: text}, api.ErrText)
	}
	checkRefused(t, houses, api.Op{Kind: api.OHead, Text: tooLong()}, api.ErrBound)
}

func TestP40Lines(t *testing.T) {
	checkApplied(t, houses, changed(t, houses, "| three", "| y"), api.Op{Kind: api.OLine, Path: "1", Line: 1, Text: "y"})
	checkApplied(t, houses, changed(t, houses, "| who reads", "|"), api.Op{Kind: api.OLine})
	checkApplied(t, houses, changed(t, houses, "  | three\n", ""), api.Op{Kind: api.ODrop, Path: "1", Line: 1})
	checkApplied(t, houses, changed(t, houses, "| who reads\n", ""), api.Op{Kind: api.ODrop})
	for _, kind := range []int{api.OLine, api.ODrop} {
		checkRefused(t, houses, api.Op{Kind: kind, Path: "1/c", Line: 9}, api.ErrPath)
		for _, line := range []int{-1, 2, math.MaxInt, math.MinInt} {
			checkRefused(t, houses, api.Op{Kind: kind, Path: "1", Line: line, Text: tooLong()}, api.ErrOrder)
		}
		checkRefused(t, houses, api.Op{Kind: kind, Path: "1/b"}, api.ErrOrder)
	}
	checkRefused(t, houses, api.Op{Kind: api.OLine, Path: "1", Text: "a "}, api.ErrText)
	checkRefused(t, houses, api.Op{Kind: api.OLine, Path: "1", Text: tooLong()}, api.ErrBound)
}

func TestP40OneLineMore(t *testing.T) {
	for line, want := range []string{"  | y\n  | one two one\n  | three\n", "  | one two one\n  | y\n  | three\n", "  | one two one\n  | three\n  | y\n"} {
		checkApplied(t, houses, changed(t, houses, "  | one two one\n  | three\n", want), api.Op{Kind: api.OAdd, Path: "1", Line: line, Text: "y"})
	}
	checkApplied(t, houses, changed(t, houses, "  b\n", "  b\n    |\n"), api.Op{Kind: api.OAdd, Path: "1/b"})
	checkRefused(t, houses, api.Op{Kind: api.OAdd, Path: "9", Line: 9}, api.ErrPath)
	for _, line := range []int{-1, 3, math.MaxInt, math.MinInt} {
		checkRefused(t, houses, api.Op{Kind: api.OAdd, Path: "1", Line: line, Text: " "}, api.ErrOrder)
	}
	checkRefused(t, houses, api.Op{Kind: api.OAdd, Path: "1", Text: " "}, api.ErrText)
	checkRefused(t, houses, api.Op{Kind: api.OAdd, Path: "1", Text: tooLong()}, api.ErrBound)

	almost := "law\n1\n" + strings.Repeat("  |\n", api.MaxLines-1)
	checkApplied(t, almost, almost+"  | y\n", api.Op{Kind: api.OAdd, Path: "1", Line: api.MaxLines - 1, Text: "y"})
	checkRefused(t, almost+"  |\n", api.Op{Kind: api.OAdd, Path: "1", Text: " "}, api.ErrBound)
	checkRefused(t, almost+"  |\n", api.Op{Kind: api.OAdd, Path: "1", Line: api.MaxLines + 1}, api.ErrOrder)
}

func TestP40Words(t *testing.T) {
	for _, c := range []struct{ path, old, young, from, to string }{
		{"1", "two", "2", "one two one", "one 2 one"},
		{"1", " two ", "", "one two one", "oneone"},
		{"1", "e t", "e or t", "one two one", "one or two one"},
		{"1", "three", "", "| three", "|"},
		{"1", "thr", "fr", "three", "free"},
		{"", "who", "he who", "who reads", "he who reads"},
		{"2", "aaa", "b", "aaa", "b"},
	} {
		checkApplied(t, houses, changed(t, houses, c.from, c.to), api.Op{Kind: api.OWords, Path: c.path, Text: c.old, New: c.young})
	}
	// A heading, and what lies in a provision, are not its lines; nor does a text go from one line to the next.
	for _, words := range []string{"", "four", "one", "First", "Doors", "x", "one\nthree", "onethree", "One", "|"} {
		checkRefused(t, houses, api.Op{Kind: api.OWords, Path: "1", Text: words, New: tooLong()}, api.ErrWords)
	}
	checkRefused(t, houses, api.Op{Kind: api.OWords, Path: "2", Text: "aa", New: "b"}, api.ErrWords)
	checkRefused(t, "law\n1\n  | a\n  | b a\n", api.Op{Kind: api.OWords, Path: "1", Text: "a"}, api.ErrWords)
	checkRefused(t, "law\n1\n  |\n", api.Op{Kind: api.OWords, Path: "1"}, api.ErrWords)
	checkRefused(t, houses, api.Op{Kind: api.OWords, Path: "3"}, api.ErrPath)
	for _, c := range []struct{ old, young string }{{"one t", " t"}, {"two one", ""}, {"two", "\n"}, {"two", "\x80"}, {"three", " "}} {
		checkRefused(t, houses, api.Op{Kind: api.OWords, Path: "1", Text: c.old, New: c.young}, api.ErrText)
	}
	checkApplied(t, "law\n| abc\n", "law\n| ab"+longest()[2:]+"\n", api.Op{Kind: api.OWords, Text: "c", New: longest()[2:]})
	checkRefused(t, "law\n| abc\n1\n", api.Op{Kind: api.OWords, Text: "c", New: longest()[1:]}, api.ErrBound)
	checkRefused(t, "law\n| abc\n1\n", api.Op{Kind: api.OWords, Text: "c", New: tooLong()}, api.ErrBound)
}

func TestP40OneProvisionMore(t *testing.T) {
	it := api.Item{Label: "c", Head: "New", Lines: []string{"y"}, Kids: []api.Item{{Label: "i"}}}
	const form = "  c New\n    | y\n    i\n"
	for at, next := range map[string]string{"": "  a Doors\n", "a": "  b\n", "b": "2\n"} {
		checkApplied(t, houses, changed(t, houses, next, form+next), api.Op{Kind: api.OPut, Path: "1", At: at, Item: it})
	}
	checkApplied(t, houses, houses+"3\n", api.Op{Kind: api.OPut, At: "2", Item: api.Item{Label: "3"}})
	checkApplied(t, "law\n", "law\n3\n", api.Op{Kind: api.OPut, Item: api.Item{Label: "3"}})

	taken := api.Item{Label: "a", Head: tooLong()}
	checkRefused(t, houses, api.Op{Kind: api.OPut, Path: "3", At: "z", Item: taken}, api.ErrPath)
	checkRefused(t, houses, api.Op{Kind: api.OPut, Path: "1", At: "z", Item: taken}, api.ErrPath)
	checkRefused(t, houses, api.Op{Kind: api.OPut, Path: "1", At: "i", Item: taken}, api.ErrPath)
	checkRefused(t, houses, api.Op{Kind: api.OPut, Path: "1", At: "a", Item: taken}, api.ErrName)
	checkRefused(t, houses, api.Op{Kind: api.OPut, Path: "2", Item: taken}, api.ErrBound)
}

func TestP40WhatIsPutIsRight(t *testing.T) {
	for _, c := range []struct {
		path string
		it   api.Item
		want error
	}{
		{"", api.Item{}, api.ErrName},
		{"", api.Item{Label: "A", Head: " "}, api.ErrName},
		{"", api.Item{Label: "3", Head: " "}, api.ErrText},
		{"", api.Item{Label: "3", Lines: []string{"a", "b "}, Kids: make([]api.Item, 1)}, api.ErrText},
		{"", api.Item{Label: "3", Kids: []api.Item{{Label: "a"}, {Label: "a"}}}, api.ErrName},
		{"", api.Item{Label: "A", Head: tooLong()}, api.ErrBound},
		{"", api.Item{Label: "3", Lines: make([]string, api.MaxLines+1)}, api.ErrBound},
		{"", chain("3", api.MaxDeep+1), api.ErrBound},
		{"1", chain("c", api.MaxDeep), api.ErrBound},
		{"1/a/i", chain("c", api.MaxDeep-2), api.ErrBound},
		{"", api.Item{Label: "3", Kids: wide(api.MaxItems).Kids}, api.ErrBound},
		{"", endless("3"), api.ErrBound},
	} {
		checkRefused(t, houses, api.Op{Kind: api.OPut, Path: c.path, Item: c.it}, c.want)
	}
	if _, err := Apply(lawOf(t, houses), []api.Op{{Kind: api.OPut, Path: "1/a/i", Item: chain("c", api.MaxDeep-3)}}); err != nil {
		t.Error(err)
	}
	full := formOf(t, wide(api.MaxItems))
	checkRefused(t, full, api.Op{Kind: api.OPut, Path: "7", Item: api.Item{Label: "a"}}, api.ErrBound)
	// The provision too many is one behind it, so what is wrong with it is told first.
	checkRefused(t, full, api.Op{Kind: api.OPut, Path: "7", Item: api.Item{Label: "a", Head: " "}}, api.ErrText)
	almost := formOf(t, wide(api.MaxItems-1))
	checkApplied(t, almost, changed(t, almost, "\n7\n", "\n7\n  a\n"), api.Op{Kind: api.OPut, Path: "7", Item: api.Item{Label: "a"}})
}

func TestP40Repeal(t *testing.T) {
	checkApplied(t, houses, changed(t, houses, "  a Doors\n    | x\n    i\n", ""), api.Op{Kind: api.ORepeal, Path: "1/a"})
	checkApplied(t, houses, changed(t, houses, "    i\n", ""), api.Op{Kind: api.ORepeal, Path: "1/a/i"})
	checkApplied(t, houses, "law Of houses\n| who reads\n", api.Op{Kind: api.ORepeal, Path: "1"}, api.Op{Kind: api.ORepeal, Path: "2"})
	for _, path := range []string{"", "3", "1/c", "1/", "/1", "law"} {
		checkRefused(t, houses, api.Op{Kind: api.ORepeal, Path: path}, api.ErrPath)
	}
}

func TestP40Labels(t *testing.T) {
	checkApplied(t, houses, changed(t, houses, "a Doors", "c Doors"), api.Op{Kind: api.OLabel, Path: "1/a", Text: "c"})
	checkApplied(t, houses, changed(t, houses, "a Doors", "i Doors"), api.Op{Kind: api.OLabel, Path: "1/a", Text: "i"})
	checkApplied(t, houses, houses, api.Op{Kind: api.OLabel, Path: "1/a", Text: "a"})
	checkApplied(t, houses, changed(t, houses, "1 First", "law First"), api.Op{Kind: api.OLabel, Path: "1", Text: "law"})
	for _, path := range []string{"", "3", "1/c", "/1"} {
		checkRefused(t, houses, api.Op{Kind: api.OLabel, Path: path, Text: "A"}, api.ErrPath)
	}
	for _, label := range []string{"b", "", "A", "0", "abcde", "1/a", " c", "c ", tooLong(), "\xff"} {
		checkRefused(t, houses, api.Op{Kind: api.OLabel, Path: "1/a", Text: label}, api.ErrName)
	}
}

func TestP40Moves(t *testing.T) {
	const row = "law\n1\n2\n  | x\n3\n"
	checkApplied(t, row, "law\n2\n  | x\n1\n3\n", api.Op{Kind: api.OMove, Path: "1", At: "2"})
	checkApplied(t, row, "law\n2\n  | x\n3\n1\n", api.Op{Kind: api.OMove, Path: "1", At: "3"})
	checkApplied(t, row, "law\n3\n1\n2\n  | x\n", api.Op{Kind: api.OMove, Path: "3"})
	checkApplied(t, row, row, api.Op{Kind: api.OMove, Path: "2", At: "1"})
	// The provision to which it goes comes nearer when it goes.
	checkApplied(t, row, "law\n2\n  | x\n3\n  1\n", api.Op{Kind: api.OMove, Path: "1", New: "3"})
	checkApplied(t, row, "law\n1\n  2\n    | x\n3\n", api.Op{Kind: api.OMove, Path: "2", New: "1"})

	const nest = "law\n1\n  a\n    | x\n    b\n  c\n2\n  c\n"
	checkApplied(t, nest, "law\n1\n  c\n2\n  c\n  a\n    | x\n    b\n", api.Op{Kind: api.OMove, Path: "1/a", New: "2", At: "c"})
	checkApplied(t, nest, "law\n1\n  a\n    | x\n  c\n2\n  c\nb\n", api.Op{Kind: api.OMove, Path: "1/a/b", At: "2"})
	checkApplied(t, nest, "law\n1\n  a\n    | x\n    b\n      2\n        c\n  c\n", api.Op{Kind: api.OMove, Path: "2", New: "1/a/b"})
	checkApplied(t, nest, "law\n1\n  c\n  a\n    | x\n    b\n2\n  c\n", api.Op{Kind: api.OMove, Path: "1/a", New: "1", At: "c"})
}

func TestP40MovesThatCannotBe(t *testing.T) {
	const nest = "law\n1\n  a\n    b\n  c\n2\n  c\n10\n"
	for _, o := range []api.Op{
		{Path: ""}, {Path: "", New: "1"}, {Path: "3"}, {Path: "1/b", New: "2"},
		{Path: "1", New: "3"}, {Path: "1", New: "1"}, {Path: "1", New: "1/a"}, {Path: "1", New: "1/a/b"}, {Path: "1/a", New: "1/a"},
		{Path: "1/a", New: "2", At: "a"}, {Path: "1/a", New: "1", At: "a"}, {Path: "1/c", New: "2", At: "b"}, {Path: "2", At: "2"}, {Path: "1/a", New: "/2"},
	} {
		o.Kind = api.OMove
		checkRefused(t, nest, o, api.ErrPath)
	}
	checkRefused(t, nest, api.Op{Kind: api.OMove, Path: "1/c", New: "2"}, api.ErrName)
	checkRefused(t, nest, api.Op{Kind: api.OMove, Path: "1/c", New: "2", At: "c"}, api.ErrName)
	checkApplied(t, nest, "law\n2\n  c\n10\n  1\n    a\n      b\n    c\n", api.Op{Kind: api.OMove, Path: "1", New: "10"})

	deep := formOf(t, api.Item{Kids: []api.Item{chain("1", 3), chain("2", api.MaxDeep-2)}})
	checkRefused(t, deep, api.Op{Kind: api.OMove, Path: "1", New: "2/a/a/a"}, api.ErrBound)
	checkRefused(t, deep, api.Op{Kind: api.OMove, Path: "1/a", New: "2/a/a"}, api.ErrName)
	for from, to := range map[string]string{"1": "2/a/a", "2": "1/a"} {
		if got, err := Apply(lawOf(t, deep), []api.Op{{Kind: api.OMove, Path: from, New: to, At: "a"}}); err != nil || script.Valid(got) != nil {
			t.Errorf("%s: %v, %v", from, got, err)
		}
	}
}

func TestP40OtherKinds(t *testing.T) {
	for _, kind := range []int{0, -1, api.OMove + 1, math.MaxInt, math.MinInt} {
		checkRefused(t, houses, api.Op{Kind: kind}, api.ErrKind)
		checkRefused(t, houses, api.Op{Kind: kind, Path: "9", Text: tooLong()}, api.ErrKind)
	}
}

func TestP40ChangesInOrder(t *testing.T) {
	checkApplied(t, houses, houses)
	checkApplied(t, "law\n", "law\n2\n  b x\n    | y\n",
		api.Op{Kind: api.OPut, Item: api.Item{Label: "1", Kids: []api.Item{{Label: "a"}}}},
		api.Op{Kind: api.OLabel, Path: "1", Text: "2"},
		api.Op{Kind: api.OLabel, Path: "2/a", Text: "b"},
		api.Op{Kind: api.OHead, Path: "2/b", Text: "x"},
		api.Op{Kind: api.OAdd, Path: "2/b", Text: "y"})
	ops := slices.Repeat([]api.Op{{Kind: api.OHead, Text: "a"}}, api.MaxOps)
	checkApplied(t, "law\n", "law a\n", ops...)
	ops[api.MaxOps-1].Path = "1"
	if _, err := Apply(api.Item{}, ops); !reflect.DeepEqual(err, &api.Fault{At: api.MaxOps - 1, Err: api.ErrPath}) {
		t.Error(err)
	}
}

func TestP40ErrorsWithoutAPlace(t *testing.T) {
	many := make([]api.Op, api.MaxOps+1)
	for _, c := range []struct {
		l    api.Item
		ops  []api.Op
		want error
	}{
		{api.Item{Label: "1"}, nil, api.ErrName},
		{api.Item{Head: " "}, many, api.ErrText},
		{wide(api.MaxItems + 1), many[:1], api.ErrBound},
		{endless(""), nil, api.ErrBound},
		{api.Item{}, many, api.ErrBound},
	} {
		if got, err := Apply(c.l, c.ops); err != c.want || !reflect.DeepEqual(got, api.Item{}) {
			t.Errorf("%v; want %v", err, c.want)
		}
	}
}

// blot writes into all memory of an item.
func blot(it api.Item) {
	for i := range it.Lines {
		it.Lines[i] = "blot"
	}
	for i := range it.Kids {
		blot(it.Kids[i])
		it.Kids[i].Label = "blot"
	}
}

func TestP4ApplySharesNothing(t *testing.T) {
	l := lawOf(t, houses)
	lines := []string{"shared"}
	kids := []api.Item{{Label: "a", Lines: lines}}
	ops := []api.Op{
		{Kind: api.OPut, Item: api.Item{Label: "3", Lines: lines, Kids: kids}},
		{Kind: api.OPut, Item: api.Item{Label: "4", Lines: lines, Kids: kids}},
		{Kind: api.OLine, Path: "1", Text: "new"},
		{Kind: api.OMove, Path: "1/a", New: "2"},
		{Kind: api.OLabel, Path: "3/a", Text: "b"},
		{Kind: api.ORepeal, Path: "1/b"},
	}
	got, err := Apply(l, ops)
	if err != nil || formOf(t, l) != houses || lines[0] != "shared" || kids[0].Label != "a" {
		t.Fatal("what was handed over is not as it was", err)
	}
	want := formOf(t, got)
	blot(l)
	blot(ops[0].Item)
	if formOf(t, got) != want {
		t.Error("what was handed over shows in the answer")
	}
	third, _ := script.Find(got, "3")
	blot(got.Kids[labelled(got.Kids, "4")])
	if again, _ := script.Find(got, "3"); !reflect.DeepEqual(again, third) {
		t.Error("two lists of the answer share memory")
	}
}

// anyText is some text, right or wrong.
func anyText(r *rand.Rand) string {
	texts := []string{"", "one", "two", "one two", "three", " ", "x ", "\"", "\n", "\xff", tooLong(), "1", "a", "b", "A", "law", "1/a", "1/", "/", ": ", "\" becomes \""}
	return texts[r.Intn(len(texts))]
}

// anyOp is some change, right or wrong.
func anyOp(r *rand.Rand) api.Op {
	o := api.Op{Kind: r.Intn(12) - 1, Path: anyText(r), At: anyText(r), Text: anyText(r), New: anyText(r), Line: r.Intn(5) - 1}
	o.Item = api.Item{Label: anyText(r), Head: anyText(r), Lines: []string{anyText(r)}}
	if r.Intn(4) == 0 {
		o.Item = endless(anyText(r))
	}
	return o
}

func TestP1AnyChanges(t *testing.T) {
	r := rand.New(rand.NewSource(40))
	for range 20000 {
		l := lawOf(t, houses)
		var ops []api.Op
		for range r.Intn(3) {
			ops = append(ops, anyOp(r))
		}
		got, err := Apply(l, ops)
		if err == nil && script.Valid(got) != nil {
			t.Fatalf("%v: a law that is not right comes", ops)
		}
		if err != nil && !reflect.DeepEqual(got, api.Item{}) {
			t.Fatalf("%v: a law beside an error", ops)
		}
		Apart(ops, []api.Op{anyOp(r)})
		if text, err := WriteAct(api.Act{Name: "A", Made: 1, From: 1, Ops: ops}); err != nil && text != "" {
			t.Fatalf("%v: a text beside an error", ops)
		}
	}
	var f *api.Fault
	if _, err := Apply(api.Item{}, []api.Op{{}}); !errors.As(err, &f) || !errors.Is(err, api.ErrKind) {
		t.Error(err)
	}
}
