package script

import (
	"math"
	"reflect"
	"slices"
	"strconv"
	"strings"
	"testing"

	"statute/api"
)

// house is a law with some of everything.
func house() api.Item {
	return api.Item{Head: "Of houses", Lines: []string{"who reads"}, Kids: []api.Item{
		{Label: "1", Head: "First", Lines: []string{"one", ""}, Kids: []api.Item{
			{Label: "a", Lines: []string{"two"}, Kids: []api.Item{{Label: "iB", Head: "Inner"}}},
			{Label: "b", Head: "Of b"},
		}},
		{Label: "2A", Lines: []string{"last"}},
	}}
}

// houseText is its form.
const houseText = "law Of houses\n| who reads\n1 First\n  | one\n  |\n  a\n    | two\n    iB Inner\n  b Of b\n2A\n  | last\n"

// kids are provisions with labels.
func kids(labels ...string) []api.Item {
	var items []api.Item
	for _, label := range labels {
		items = append(items, api.Item{Label: label})
	}
	return items
}

// chain is a law with so many provisions within each other.
func chain(deep int) api.Item {
	var it api.Item
	for range deep {
		it = api.Item{Kids: []api.Item{it}}
		it.Kids[0].Label = "a"
	}
	return it
}

// wide is a law with so many provisions beside each other.
func wide(count int) api.Item {
	var l api.Item
	for i := range count {
		l.Kids = append(l.Kids, api.Item{Label: strconv.Itoa(i + 1)})
	}
	return l
}

// endless is a law whose provisions lie within themselves.
func endless() api.Item {
	list := kids("a", "b")
	list[0].Kids = list
	list[1].Kids = list[:1]
	return api.Item{Kids: list}
}

// blot writes into all memory of an item.
func blot(it api.Item) {
	for i := range it.Lines {
		it.Lines[i] = "blot"
	}
	for i := range it.Kids {
		blot(it.Kids[i])
		it.Kids[i].Label = "blot"
	}
}

func TestP30FindGoesInwards(t *testing.T) {
	l := house()
	for path, want := range map[string]api.Item{
		"":       l,
		"1":      l.Kids[0],
		"1/a":    l.Kids[0].Kids[0],
		"1/a/iB": l.Kids[0].Kids[0].Kids[0],
		"1/b":    l.Kids[0].Kids[1],
		"2A":     l.Kids[1],
	} {
		if got, ok := Find(l, path); !ok || !reflect.DeepEqual(got, want) {
			t.Errorf("%q: %v, %v; want %v", path, got, ok, want)
		}
	}
}

func TestP30FindOfWhatIsNotThere(t *testing.T) {
	l := house()
	for _, path := range []string{"a", "2", "2a", "1/c", "1/a/iB/x", "/", "/1", "1/", "1//a", "1/a/", " 1", "law", "01", "1/A", "\xff", strings.Repeat("1/", 100000)} {
		if got, ok := Find(l, path); ok || !reflect.DeepEqual(got, api.Item{}) {
			t.Errorf("%.20q: %v, %v", path, got, ok)
		}
	}
}

func TestP30FindTakesTheFirstAndComparesAsItIs(t *testing.T) {
	l := api.Item{Kids: []api.Item{
		{Label: "1", Head: "first", Kids: kids("a")},
		{Label: "1", Head: "second", Kids: kids("b")},
		{Label: "no label", Head: "words"},
		{Label: "x/y", Head: "mark"},
		{Label: "", Head: "none", Kids: []api.Item{{Label: "", Head: "none in none"}}},
	}}
	for path, want := range map[string]string{"1": "first", "no label": "words", "/": "none in none"} {
		if got, ok := Find(l, path); !ok || got.Head != want {
			t.Errorf("%q: %v, %v; want %q", path, got, ok, want)
		}
	}
	for _, path := range []string{"1/b", "x/y", "//"} {
		if got, ok := Find(l, path); ok {
			t.Errorf("%q: %v", path, got)
		}
	}
	if got, ok := Find(api.Item{Label: "7", Head: "any"}, ""); !ok || got.Head != "any" || got.Label != "7" {
		t.Errorf("the empty path: %v, %v", got, ok)
	}
}

func TestP4FindAnswersNewMemory(t *testing.T) {
	for _, path := range []string{"", "1", "1/a"} {
		l := house()
		got, _ := Find(l, path)
		blot(got)
		if !reflect.DeepEqual(l, house()) {
			t.Errorf("%q: what is answered lies in what was given: %v", path, l)
		}
	}
}

func TestP34EachIsAheadOfItsKids(t *testing.T) {
	l := house()
	wantPaths := []string{"1", "1/a", "1/a/iB", "1/b", "2A"}
	one := l.Kids[0]
	wantItems := []api.Item{one, one.Kids[0], one.Kids[0].Kids[0], one.Kids[1], l.Kids[1]}
	for _, most := range []int{math.MinInt, -1, 0, 1, 2, 3, 4, 5, 6, math.MaxInt} {
		paths, items := Each(l, most)
		count := min(max(most, 0), len(wantPaths))
		if len(paths) != count || len(items) != count {
			t.Errorf("at most %d: %v, %v", most, paths, items)
			continue
		}
		for i := range paths {
			if paths[i] != wantPaths[i] || !reflect.DeepEqual(items[i], wantItems[i]) {
				t.Errorf("at most %d: number %d is %q, %v", most, i, paths[i], items[i])
			}
		}
	}
	if paths, items := Each(api.Item{Label: "1", Lines: []string{"a"}}, 9); len(paths) != 0 || len(items) != 0 {
		t.Errorf("a law without provisions: %v, %v", paths, items)
	}
}

func TestP34EachOfLawsThatAreNotRight(t *testing.T) {
	l := api.Item{Label: "law", Kids: []api.Item{
		{Label: "", Kids: kids("x", "")},
		{Label: "1", Kids: kids("a")},
		{Label: "1", Kids: kids("b", "b")},
	}}
	want := []string{"", "/x", "/", "1", "1/a", "1", "1/b", "1/b"}
	if paths, _ := Each(l, 100); !slices.Equal(paths, want) {
		t.Errorf("%q; want %q", paths, want)
	}
	if paths, items := Each(wide(api.MaxItems+9), api.MaxItems+5); len(paths) != api.MaxItems+5 || len(items) != len(paths) {
		t.Errorf("%d paths, %d items", len(paths), len(items))
	}
	if paths, _ := Each(chain(50), 100); len(paths) != 50 || len(paths[49]) != 99 {
		t.Errorf("%d paths of a deep law", len(paths))
	}
}

func TestP34EachPathIsThatOfFind(t *testing.T) {
	l := house()
	paths, items := Each(l, 9)
	for i, path := range paths {
		if it, ok := Find(l, path); !ok || !reflect.DeepEqual(it, items[i]) {
			t.Errorf("%q: %v, %v; want %v", path, it, ok, items[i])
		}
	}
}

func TestP4EachAnswersNewMemory(t *testing.T) {
	l := house()
	_, items := Each(l, 9)
	for i := range items {
		_, want := Each(l, 9)
		blot(items[i])
		for k := i + 1; k < len(items); k++ {
			if !reflect.DeepEqual(items[k], want[k]) {
				t.Errorf("items %d and %d share memory", i, k)
			}
		}
	}
	if !reflect.DeepEqual(l, house()) {
		t.Errorf("what is answered lies in what was given: %v", l)
	}
}

func TestP1LawsWithinThemselves(t *testing.T) {
	l := endless()
	if err := Valid(l); err != api.ErrBound {
		t.Errorf("Valid: %v", err)
	}
	if text, err := Write(l); text != "" || err != api.ErrBound {
		t.Errorf("Write: %q, %v", text, err)
	}
	if it, ok := Find(l, "a/a/b/a/a"); !ok || it.Label != "a" {
		t.Errorf("Find: %v", ok)
	}
	paths, items := Each(l, math.MaxInt)
	if len(paths) <= api.MaxItems || len(items) != len(paths) || paths[0] != "a" || paths[1] != "a/a" {
		t.Errorf("Each: %d paths, %d items", len(paths), len(items))
	}
}

// circle is a law in which a provision `a` with a line stands at each path of a's, however long: so many lists of kids, each within the one ahead, and the first within the last.
func circle(size int) api.Item {
	lists := make([][]api.Item, size)
	for i := range lists {
		lists[i] = kids("a")
		lists[i][0].Lines = []string{"line"}
	}
	for i := range lists {
		lists[i][0].Kids = lists[(i+1)%size]
	}
	return api.Item{Kids: lists[0]}
}

func TestP34EachWhereListsLieWithinThemselves(t *testing.T) {
	for size := 1; size <= 9; size++ {
		l := circle(size)
		for _, most := range []int{1, 2, 3, 5, 8, api.MaxItems + 1, 1000} {
			paths, items := Each(l, most)
			if len(paths) != most || len(items) != most {
				t.Errorf("%d lists: %d paths, %d items; want %d", size, len(paths), len(items), most)
			}
			for i, path := range paths {
				if path != "a"+strings.Repeat("/a", i) {
					t.Errorf("%d lists: number %d is %.20q", size, i, path)
				}
				if it := items[i]; it.Label != "a" || !slices.Equal(it.Lines, []string{"line"}) || len(it.Kids) != 1 {
					t.Errorf("%d lists: number %d is another provision", size, i)
				}
			}
		}
	}
}

func TestP34EachWhereALawComesAgain(t *testing.T) {
	list := kids("a", "b")
	list[1].Kids = list
	want := []string{"a", "b", "b/a", "b/b", "b/b/a", "b/b/b", "b/b/b/a"}
	if paths, _ := Each(api.Item{Kids: list}, len(want)); !slices.Equal(paths, want) {
		t.Errorf("%q; want %q", paths, want)
	}
}

// P2: on no address.
func TestP2LawsThatReadTheSame(t *testing.T) {
	one := circle(1)
	wantPaths, wantItems := Each(one, 20)
	for size := 2; size <= 9; size++ {
		l := circle(size)
		for _, path := range []string{"", "a", "a/a/a"} {
			want, _ := Find(one, path)
			if it, ok := Find(l, path); !ok || !reflect.DeepEqual(it, want) {
				t.Errorf("%d lists: %q is another provision", size, path)
			}
		}
		if paths, items := Each(l, 20); !slices.Equal(paths, wantPaths) || !reflect.DeepEqual(items, wantItems) {
			t.Errorf("%d lists: other paths, or provisions", size)
		}
	}
}

func TestP30FindOfManyProvisions(t *testing.T) {
	for _, l := range []api.Item{wide(20000), chain(5000), {Kids: []api.Item{wide(3000), wide(4000), chain(100)}}} {
		if it, ok := Find(l, ""); !ok || !reflect.DeepEqual(it, l) {
			t.Errorf("%d provisions in it: another law", len(l.Kids))
		}
	}
}

func TestP1ManyMoreProvisionsThanLists(t *testing.T) {
	list := kids("a", "b")
	for range 100 {
		outer := kids("a", "b")
		outer[0].Kids, outer[1].Kids = list, list
		list = outer
	}
	l := api.Item{Kids: list}
	if it, ok := Find(l, "a/b"); !ok || len(it.Kids) != 2 || len(it.Kids[0].Kids) != 2 || len(it.Kids[1].Kids[1].Kids) != 2 {
		t.Errorf("Find: %v", ok)
	}
	if paths, items := Each(l, 120); len(items) != 120 || len(paths) != 120 || paths[100] != strings.Repeat("a/", 100)+"a" {
		t.Errorf("Each: %d, %d", len(paths), len(items))
	}
}

// P4: also where two provisions that are given share a list.
func TestP4WhatIsGivenMayShareMemory(t *testing.T) {
	make2 := func() api.Item {
		list := []api.Item{{Label: "x", Lines: []string{"line"}}}
		return api.Item{Kids: []api.Item{{Label: "a", Kids: list}, {Label: "b", Kids: list}}}
	}
	l := make2()
	it, _ := Find(l, "")
	blot(it.Kids[0])
	if !reflect.DeepEqual(it.Kids[1], make2().Kids[1]) || !reflect.DeepEqual(l, make2()) {
		t.Errorf("Find: %v, %v", it, l)
	}
	_, items := Each(l, 9)
	blot(items[0])
	if !reflect.DeepEqual(items[2], make2().Kids[1]) || !reflect.DeepEqual(l, make2()) {
		t.Errorf("Each: %v, %v", items, l)
	}
	c := circle(1)
	it, _ = Find(c, "a")
	blot(it)
	if again, _ := Find(c, "a/a"); again.Label != "a" || again.Lines[0] != "line" {
		t.Errorf("a list within itself: %q", again.Label)
	}
}

func TestP1VeryDeepLaws(t *testing.T) {
	l := chain(100000)
	if err := Valid(l); err != api.ErrBound {
		t.Errorf("Valid: %v", err)
	}
	if it, ok := Find(l, "a/a"); !ok || it.Label != "a" || len(it.Kids) != 1 {
		t.Errorf("Find: %v", ok)
	}
	if paths, items := Each(l, 3); len(paths) != 3 || len(items) != 3 || paths[2] != "a/a/a" {
		t.Errorf("Each: %q", paths)
	}
}

// deepUnder is how many provisions lie within each other under an item.
func deepUnder(it api.Item) int {
	deep := 0
	for len(it.Kids) > 0 {
		it = it.Kids[0]
		deep++
	}
	return deep
}

func TestP34EachProvisionIsWhole(t *testing.T) {
	for _, size := range []int{700, 1500} {
		paths, items := Each(chain(size), 2*size)
		if len(paths) != size || len(items) != size {
			t.Fatalf("%d paths, %d provisions; want %d", len(paths), len(items), size)
		}
		for i, it := range items {
			if deepUnder(it) != size-1-i {
				t.Fatalf("%d under provision %d of %d", deepUnder(it), i, size)
			}
		}
	}
}

// P34: what has an end is whole, also in a law that has none.
func TestP34EachBesideWhatHasNoEnd(t *testing.T) {
	first, second := wide(900), circle(1)
	first.Label, second.Label = "x", "y"
	l := api.Item{Kids: []api.Item{first, second}}
	paths, items := Each(l, 905)
	if len(paths) != 905 || paths[904] != "y/a/a/a" || !reflect.DeepEqual(items[0], first) {
		t.Errorf("%d paths; %d provisions in the first", len(paths), len(items[0].Kids))
	}
	if it, ok := Find(l, "x"); !ok || !reflect.DeepEqual(it, first) {
		t.Errorf("Find: %v, %d provisions", ok, len(it.Kids))
	}
}

func TestP34EachOfLongPaths(t *testing.T) {
	long := strings.Repeat("a", 1000000)
	l := api.Item{}
	for i := range 40 {
		l.Kids = append(l.Kids, api.Item{Label: long + strconv.Itoa(i)})
	}
	end := circle(2)
	end.Label = "end"
	l.Kids = append(l.Kids, end)
	paths, items := Each(l, 50)
	if len(paths) != 50 || len(items) != 50 {
		t.Fatalf("%d paths, %d provisions", len(paths), len(items))
	}
	for i := range 40 {
		if paths[i] != l.Kids[i].Label || items[i].Label != paths[i] {
			t.Errorf("number %d is another provision", i)
		}
	}
	if paths[49] != "end"+strings.Repeat("/a", 9) {
		t.Errorf("%.40q", paths[49])
	}
	if paths, _ := Each(chain(5000), 3); len(paths) != 3 {
		t.Errorf("%d paths", len(paths))
	}
	count := 0
	for range Through(chain(5000)) {
		count++
	}
	if count != 5000 {
		t.Errorf("%d provisions", count)
	}
}

// P1: provisions without an end, with very many lines each.
func TestP1ManyLinesWithoutAnEnd(t *testing.T) {
	l := circle(3)
	for list, i := l.Kids, 0; i < 3; list, i = list[0].Kids, i+1 {
		list[0].Lines = make([]string, 1000000)
	}
	paths, items := Each(l, math.MaxInt)
	if len(paths) == 0 || len(paths) != len(items) || len(items[0].Lines) != 1000000 {
		t.Errorf("%d paths, %d provisions", len(paths), len(items))
	}
	if it, ok := Find(l, "a/a"); !ok || len(it.Lines) != 1000000 {
		t.Errorf("%v, %d lines", ok, len(it.Lines))
	}
}
