package terms

import (
	"errors"
	"reflect"
	"slices"
	"strconv"
	"strings"
	"testing"

	"statute/api"
	"statute/script"
)

// mustLaw is the law of a form.
func mustLaw(t *testing.T, text string) api.Item {
	t.Helper()
	l, err := script.Read(text)
	if err != nil {
		t.Fatal(err)
	}
	return l
}

// placedOf are the sentences of a law of a form, all of which can be read.
func placedOf(t *testing.T, text string) []Placed {
	t.Helper()
	list, wrong := All(mustLaw(t, text))
	if len(wrong) > 0 {
		t.Fatal(wrong)
	}
	return list
}

// house is a law with definitions in many places.
const house = `law Of houses
| a house is a house
| define x: a
| define y: x or z
| define z: c
1 Doors
  | define x: b
  | rule r: h if y
  | rule
  | rule q h
  a
    | define x: c
    | define w: e
    | define x: d and x2
    i
      | amount m: 5 if x
  b
    | duty d: h within 5 day
2
  | define w: not x
10
  | define x: v
`

func TestP63All(t *testing.T) {
	placed, wrong := All(mustLaw(t, house))
	want := []struct {
		path string
		line int
		text string
	}{
		{"", 1, "define x: a"}, {"", 2, "define y: x or z"}, {"", 3, "define z: c"},
		{"1", 0, "define x: b"}, {"1", 1, "rule r: h if y"},
		{"1/a", 0, "define x: c"}, {"1/a", 1, "define w: e"}, {"1/a", 2, "define x: d and x2"},
		{"1/a/i", 0, "amount m: 5 if x"}, {"2", 0, "define w: not x"}, {"10", 0, "define x: v"},
	}
	if len(placed) != len(want) {
		t.Fatalf("%d sentences: %+v", len(placed), placed)
	}
	for i, w := range want {
		if p := placed[i]; p.Path != w.path || p.Line != w.line || !reflect.DeepEqual(p.Sentence, mustRead(t, w.text)) {
			t.Errorf("number %d: %+v; want %+v", i, p, w)
		}
	}
	if wantWrong := []Wrong{{"1", 3, 7, api.ErrText}, {"1/b", 0, 19, api.ErrText}}; !reflect.DeepEqual(wrong, wantWrong) {
		t.Errorf("%+v; want %+v", wrong, wantWrong)
	}
}

func TestP63AllOfOtherLaws(t *testing.T) {
	if placed, wrong := All(api.Item{}); len(placed) > 0 || len(wrong) > 0 {
		t.Errorf("%v, %v", placed, wrong)
	}
	long := "rule " + strings.Repeat("x", 1000)
	l := api.Item{Label: "law", Lines: []string{"", long, "\n", "rule \xff"}, Kids: []api.Item{
		{Label: "", Lines: []string{"define a: b"}, Kids: []api.Item{{Label: "z z", Lines: []string{"rule", "rule r: s"}}}},
		{Label: "1"}, {Label: "1", Lines: []string{"define a: @"}},
	}}
	placed, wrong := All(l)
	wantWrong := []Wrong{{"", 1, 0, api.ErrBound}, {"", 3, 5, api.ErrText}, {"1", 0, 10, api.ErrText}}
	if !reflect.DeepEqual(wrong, wantWrong) {
		t.Errorf("%+v; want %+v", wrong, wantWrong)
	}
	wantPlaced := []Placed{{"", 0, mustRead(t, "define a: b")}, {"/z z", 1, mustRead(t, "rule r: s")}}
	if !reflect.DeepEqual(placed, wantPlaced) {
		t.Errorf("%+v; want %+v", placed, wantPlaced)
	}
}

func TestP1AllOfALawWithoutAnEnd(t *testing.T) {
	kids := make([]api.Item, 2)
	for i := range kids {
		kids[i] = api.Item{Label: strconv.Itoa(i + 1), Kids: kids, Lines: []string{"define a: b", "rule"}}
	}
	placed, wrong := All(api.Item{Lines: []string{"rule r: s", "rule "}, Kids: kids})
	if len(placed) <= api.MaxItems || placed[0].Sentence.Name != "r" || placed[2].Path != "1/1" || len(wrong) != 1 {
		t.Errorf("%d sentences, %v", len(placed), wrong)
	}
}

func TestP63Meant(t *testing.T) {
	placed, _ := All(mustLaw(t, house))
	for _, c := range []struct {
		path, name, text, in string
	}{
		{"", "x", "a", ""}, {"", "y", "x or z", ""}, {"", "z", "c", ""},
		{"1", "x", "b", "1"}, {"1", "y", "x or z", ""}, {"1/b", "x", "b", "1"},
		{"1/a", "x", "d and x2", "1/a"}, {"1/a", "w", "e", "1/a"}, {"1/a", "z", "c", ""},
		{"1/a/i", "x", "d and x2", "1/a"}, {"1/a/i/B/c", "w", "e", "1/a"}, {"1/aA", "x", "b", "1"},
		{"2", "x", "a", ""}, {"2", "w", "not x", "2"}, {"10", "x", "v", "10"}, {"10/a", "x", "v", "10"}, {"3", "x", "a", ""}, {"100", "x", "a", ""}, {"1A", "x", "a", ""}, {"/1", "x", "a", ""}, {"no path", "x", "a", ""},
	} {
		n, in, ok := Meant(placed, c.path, c.name)
		if want := mustRead(t, "define q: "+c.text).If; !ok || in != c.in || !reflect.DeepEqual(n, want) {
			t.Errorf("%s at %q: %+v, %q, %v; want %q of %q", c.name, c.path, n, in, ok, c.text, c.in)
		}
	}
	for _, c := range [][2]string{{"", "w"}, {"1", "w"}, {"1/b", "w"}, {"10", "w"}, {"", "a"}, {"", ""}, {"1", "r"}, {"1/a/i", "m"}, {"1/b", "d"}, {"1/a", "h"}, {"a", "w"}, {"2A", "w"}, {"21", "w"}} {
		if n, in, ok := Meant(placed, c[0], c[1]); ok || in != "" || !reflect.DeepEqual(n, Node{}) {
			t.Errorf("%s at %q: %+v, %q, %v", c[1], c[0], n, in, ok)
		}
	}
	if n, in, ok := Meant(placed, strings.Repeat("1/a/", 500000), "x"); !ok || in != "1/a" || n.Kind != "and" {
		t.Errorf("a long path: %+v, %q, %v", n, in, ok)
	}
	if n, in, ok := Meant(nil, "1/a", "x"); ok || in != "" || !reflect.DeepEqual(n, Node{}) {
		t.Errorf("of no sentences: %+v, %q, %v", n, in, ok)
	}
}

func TestP63OfTwoInOneProvisionTheLater(t *testing.T) {
	early, late := mustRead(t, "define x: a"), mustRead(t, "define x: b")
	for _, l := range [][]Placed{
		{{"1", 2, early}, {"1", 3, late}},
		{{"1", 3, late}, {"1", 2, early}},
		{{"1", 2, early}, {"1", 2, late}},
		{{"1", 2, early}, {"1", 3, late}, {"", 4, early}, {"1/a", 5, early}, {"2", 6, early}},
	} {
		if n, in, ok := Meant(l, "1/b", "x"); !ok || in != "1" || n.Word != "b" {
			t.Errorf("%+v, %q, %v", n, in, ok)
		}
	}
}

func TestP63Opened(t *testing.T) {
	placed, _ := All(mustLaw(t, house))
	for _, c := range []struct{ path, text, want string }{
		{"", "x", "a"},
		{"", "y", "a or c"},
		{"1", "y", "a or c"},
		{"1", "x and y", "b and (a or c)"},
		{"1/a", "x or w", "d and x2 or e"},
		{"1", "w", "w"},
		{"2", "w", "not a"},
		{"2", "not (w or not y)", "not (not a or not (a or c))"},
		{"1", "some x (x)", "some x (b)"},
		{"1", "every child (some y (y and q))", "every child (some y ((a or c) and q))"},
		{"1", "x < 5 and x", "x < 5 and b"},
		{"1", "some x (x = y + [z - x] * 5%)", "some x (x = y + [z - x] * 5%)"},
		{"1", "count x > total x of y", "count x > total x of y"},
		{"1", "max(x, y) = min(x, z) or z", "max(x, y) = min(x, z) or c"},
		{"no path", "x", "a"},
		{"", "q", "q"},
	} {
		n, err := Opened(placed, c.path, mustRead(t, "define q: "+c.text).If)
		if want := mustRead(t, "define q: "+c.want).If; err != nil || !isSameNode(n, want) {
			t.Errorf("%q at %q: %+v, %v; want %q", c.text, c.path, n, err, c.want)
		}
	}
	for _, n := range []Node{{}, {Kind: "other", Word: "x", N: 7, Kids: []Node{named("x")}}, {Kind: "number", N: 5}} {
		if got, err := Opened(placed, "", n); err != nil || !isSameNode(got, n) {
			t.Errorf("%+v: %+v, %v", n, got, err)
		}
	}
	if got, err := Opened(nil, "1", named("x")); err != nil || !isSameNode(got, named("x")) {
		t.Errorf("of no sentences: %+v, %v", got, err)
	}
}

func TestP63NamesThatMeanThemselves(t *testing.T) {
	placed := placedOf(t, `law
| define a: a
| define b: c or q
| define c: not d
| define d: some child (q and b)
| define e: e < 5 and count e > 0
| define f: g
| define g: h
| define k: x
| define x: y
| define p: a
1
  | define x: k
  | define h: f
  | define e: x
  | define y: z
2
  | define g: f
3
  | define x: not x
  | define m: some m (n)
  | define n: every n (m)
`)
	for _, c := range []struct {
		path, text string
		want       error
	}{
		{"", "a", api.ErrOrder}, {"", "b", api.ErrOrder}, {"", "c", api.ErrOrder}, {"", "d", api.ErrOrder}, {"", "p", api.ErrOrder},
		{"1", "q or q and not some child (q or a)", api.ErrOrder},
		{"", "q < a", nil}, {"", "count a = total b of c", nil}, {"", "some a (q)", nil}, {"", "e", nil},
		// f, g and h are the law's: what lies deeper is not meant there.
		{"", "f", nil}, {"1", "f", nil}, {"1", "h", nil}, {"2", "g", nil}, {"2", "f", nil},
		// k is the law's, and so is its x.
		{"1", "x", nil}, {"1", "k", nil}, {"1", "e", nil}, {"1", "y", nil},
		{"3", "x", api.ErrOrder}, {"3", "k", nil}, {"3/a", "q and x", api.ErrOrder}, {"3", "m", api.ErrOrder}, {"3", "n", api.ErrOrder}, {"", "m and n", nil},
	} {
		n, err := Opened(placed, c.path, mustRead(t, "define z: "+c.text).If)
		if err != c.want || err != nil && !reflect.DeepEqual(n, Node{}) {
			t.Errorf("%q at %q: %+v, %v; want %v", c.text, c.path, n, err, c.want)
		}
	}
}

// doubles is a law in whose definitions d0, d1, .. each but the first has the one ahead twice: so many.
func doubles(t *testing.T, count int) []Placed {
	text := "law\n| define d0: a and a\n"
	for i := range count {
		text += "| define d" + strconv.Itoa(i+1) + ": d" + strconv.Itoa(i) + " and d" + strconv.Itoa(i) + "\n"
	}
	return placedOf(t, text+"| define u: v\n| define v: u\n")
}

// chainOf so many names: as many and one less nodes.
func chainOf(count int, name string) Node {
	n := named(name)
	for range count - 1 {
		n = node("and", n, named(name))
	}
	return n
}

func TestP63HowManyNodes(t *testing.T) {
	placed := doubles(t, 12)
	for i := range 13 {
		n, err := Opened(placed, "", named("d"+strconv.Itoa(i)))
		if i <= 8 && (err != nil || sizeOf(n) != 4<<i-1) || i > 8 && (err != api.ErrBound || !reflect.DeepEqual(n, Node{})) {
			t.Errorf("d%d: %d nodes, %v", i, sizeOf(n), err)
		}
	}
	for _, c := range []struct {
		n    Node
		want error
	}{
		{chainOf(1000, "a"), nil},                                    // 1999
		{node("not", chainOf(1000, "a")), nil},                       // 2000
		{node("not", node("not", chainOf(1000, "a"))), api.ErrBound}, // 2001
		{chainOf(1001, "a"), api.ErrBound},                           // 2001
		{node("and", named("d8"), chainOf(488, "a")), nil},           // 1 + 1023 + 975: 1999
		{node("not", node("and", named("d8"), chainOf(488, "a"))), nil},
		{node("and", named("d8"), chainOf(489, "a")), api.ErrBound},
		{node("<", chainOf(999, "a"), named("a")), nil},           // 1999
		{node("<", chainOf(1000, "a"), named("a")), api.ErrBound}, // 2001
		{of1("some", "d12", named("d8")), nil},
		{node("<", named("d12"), named("d12")), nil},
		// Though it has too many nodes, or they come first, what means itself is told.
		{node("and", named("d12"), named("u")), api.ErrOrder},
		{node("and", named("u"), named("d12")), api.ErrOrder},
		{node("and", chainOf(5000, "a"), node("not", named("u"))), api.ErrOrder},
		{node("and", chainOf(5000, "a"), node("<", named("u"), named("u"))), api.ErrBound},
	} {
		if n, err := Opened(placed, "1/a", c.n); err != c.want || err != nil && !reflect.DeepEqual(n, Node{}) {
			t.Errorf("%d nodes: %v; want %v", sizeOf(c.n), err, c.want)
		}
	}
}

func sizeOf(n Node) int {
	size := 1
	for _, kid := range n.Kids {
		size += sizeOf(kid)
	}
	return size
}

func TestP63LongWaysOfDefinitions(t *testing.T) {
	var placed []Placed
	count := api.MaxItems * api.MaxLines
	for i := range count {
		s := Sentence{Kind: "define", Name: "d" + strconv.Itoa(i), If: named("d" + strconv.Itoa(i+1))}
		placed = append(placed, Placed{Path: "1/a/b/c/d/e", Line: i, Sentence: s})
	}
	n, err := Opened(placed, "1/a/b/c/d/e", chainOf(100, "d0"))
	if err != nil || !isSameNode(n, chainOf(100, "d"+strconv.Itoa(count))) {
		t.Errorf("%v", err)
	}
	placed = append(placed, Placed{Path: "1", Sentence: Sentence{Kind: "define", Name: "d" + strconv.Itoa(count), If: named("d0")}})
	if _, err := Opened(placed, "1/a/b/c/d/e", named("d0")); err != nil {
		t.Errorf("another d0 is meant: %v", err)
	}
	placed[len(placed)-1].Path = "1/a/b/c/d/e"
	if _, err := Opened(placed, "1/a/b/c/d/e/f", named("d7")); err != api.ErrOrder {
		t.Errorf("a long way round: %v", err)
	}
}

func TestP1NodesWithoutAnEnd(t *testing.T) {
	for i, n := range circles() {
		placed := []Placed{
			{Sentence: Sentence{Kind: "define", Name: "x", If: n}},
			{Sentence: Sentence{Kind: "define", Name: "y", If: node("or", named("x"), named("y"))}},
		}
		if got, _, ok := Meant(placed, "", "x"); !ok || got.Kind != n.Kind || len(got.Kids) != len(n.Kids) {
			t.Errorf("%d: Meant: %q", i, got.Kind)
		}
		for _, c := range []Node{n, named("x"), node("not", named("x"))} {
			got, err := Opened(placed, "1", c)
			if err == nil && sizeOf(got) > maxOpened || err != nil && (err != api.ErrBound || !reflect.DeepEqual(got, Node{})) {
				t.Errorf("%d: Opened: %v", i, err)
			}
		}
		if _, err := Opened(placed, "1", node("and", named("y"), n)); err != api.ErrOrder {
			t.Errorf("%d: Opened: %v", i, err)
		}
	}
}

// P63: ErrOrder is told wherever the name stands, also where there is no end.
func TestP63WhatMeansItselfStandsBehindVeryMuch(t *testing.T) {
	placed := placedOf(t, "law\n| define u: not v\n| define v: u or a\n| define w: a\n")
	wide := node("or")
	for range 200000 {
		wide.Kids = append(wide.Kids, named("w"))
	}
	deep := named("w")
	for range 200000 {
		deep = node("not", deep)
	}
	round := node("and", named("w"), Node{})
	round.Kids[1] = round
	for i, much := range []Node{wide, deep, chainOf(100000, "w"), round} {
		if _, err := Opened(placed, "1", much); err != api.ErrBound {
			t.Errorf("number %d: %v", i, err)
		}
		for _, n := range []Node{node("or", much, named("u")), node("or", named("v"), much), node("or", much, of1("some", "a", named("v")))} {
			if _, err := Opened(placed, "1", n); err != api.ErrOrder {
				t.Errorf("number %d: %v; want ErrOrder", i, err)
			}
		}
		// So it is in what is put in.
		more := append(slices.Clone(placed), Placed{Sentence: Sentence{Kind: "define", Name: "x", If: node("or", much, named("u"))}})
		if _, err := Opened(more, "1", node("not", named("x"))); err != api.ErrOrder {
			t.Errorf("number %d: %v; want ErrOrder", i, err)
		}
	}
	round.Kids[1] = node("or", named("w"), named("u"))
	round.Kids[1].Kids[0] = round
	if _, err := Opened(placed, "1", round); err != api.ErrOrder {
		t.Errorf("in what has no end: %v; want ErrOrder", err)
	}
}

func TestP1ManyNamesInAVeryDeepProvision(t *testing.T) {
	path := "1" + strings.Repeat("/1", 5000)
	placed := []Placed{
		{Path: path, Sentence: Sentence{Kind: "define", Name: "x", If: named("y")}},
		{Sentence: Sentence{Kind: "define", Name: "u", If: named("u")}},
	}
	n := node("or")
	for i := range 100000 {
		n.Kids = append(n.Kids, named("x"), named("n"+strconv.Itoa(i)))
	}
	if _, err := Opened(placed, path+"/1", n); err != api.ErrBound {
		t.Errorf("%v", err)
	}
	n.Kids = append(n.Kids, named("u"))
	if _, err := Opened(placed, path, n); err != api.ErrOrder {
		t.Errorf("%v", err)
	}
}

func TestP63AllOfLongPaths(t *testing.T) {
	var l api.Item
	long := strings.Repeat("a", 1000000)
	for i := range 30 {
		l.Kids = append(l.Kids, api.Item{Label: long + strconv.Itoa(i), Lines: []string{"define b: c", "define :"}})
	}
	placed, wrong := All(l)
	if len(placed) != 30 || len(wrong) != 30 || placed[29].Path != long+"29" {
		t.Errorf("%d sentences, %d wrong ones", len(placed), len(wrong))
	}
	l = api.Item{}
	for range 5000 {
		l.Label, l.Lines = "a", []string{"define b: c"}
		l = api.Item{Kids: []api.Item{l}}
	}
	if placed, _ := All(l); len(placed) != 5000 {
		t.Errorf("%d sentences", len(placed))
	}
}

func TestP4MeantAndOpenedAnswerNewMemory(t *testing.T) {
	text := "law\n| define x: a and b < 5\n| define y: not x and x\n"
	placed := placedOf(t, text)
	blot := func(n Node) {
		for _, kid := range []*Node{&n.Kids[0], &n.Kids[1], &n.Kids[1].Kids[0]} {
			kid.Word, kid.Kind = "blot", "blot"
		}
	}
	n, _, _ := Meant(placed, "", "x")
	blot(n)
	n, err := Opened(placed, "", named("y"))
	if err != nil {
		t.Fatal(err)
	}
	blot(n.Kids[1])
	if first := n.Kids[0].Kids[0]; !isSameNode(first, mustRead(t, "define x: a and b < 5").If) {
		t.Errorf("two that were put in share memory: %+v", first)
	}
	given := mustRead(t, "define z: (x and q < 5) and max(1, 2) = 3").If
	n, _ = Opened(placed, "", given)
	n.Kids[0].Kids[1].Kids[0].Word = "blot"
	n.Kids[1].Kids[0].Kids[0].N = -1
	if !isSameNode(given, mustRead(t, "define z: (x and q < 5) and max(1, 2) = 3").If) {
		t.Errorf("what was given is another one: %+v", given)
	}
	if !reflect.DeepEqual(placed, placedOf(t, text)) {
		t.Errorf("the sentences are others: %+v", placed)
	}
}

func TestP60IsWord(t *testing.T) {
	for text, want := range map[string]bool{
		"a": true, "z9_": true, "if": true, strings.Repeat("q", api.MaxWord): true,
		"": false, "A": false, "aB": false, "9": false, "_a": false, "a b": false, "a ": false, " a": false, "a-b": false, "\xff": false, "ä": false, strings.Repeat("q", api.MaxWord+1): false,
	} {
		if IsWord(text) != want {
			t.Errorf("%q: %v", text, !want)
		}
	}
}

// TestP1WhatNoRuleHasThrown: a fault of the program itself is not told as one of a line.
func TestP1WhatNoRuleHasThrown(t *testing.T) {
	other := errors.New("another one")
	defer func() {
		if x := recover(); x != other {
			t.Errorf("%v", x)
		}
	}()
	t.Errorf("%v", caught(other))
}
