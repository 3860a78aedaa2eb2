package script

import (
	"math"
	"reflect"
	"slices"
	"strconv"
	"strings"
	"testing"

	"statute/api"
)

// house is a law with some of everything.
func house() api.Item {
	return api.Item{Head: "Of houses", Lines: []string{"who reads"}, Kids: []api.Item{
		{Label: "1", Head: "First", Lines: []string{"one", ""}, Kids: []api.Item{
			{Label: "a", Lines: []string{"two"}, Kids: []api.Item{{Label: "iB", Head: "Inner"}}},
			{Label: "b", Head: "Of b"},
		}},
		{Label: "2A", Lines: []string{"last"}},
	}}
}

// houseText is its form.
const houseText = "law Of houses\n| who reads\n1 First\n  | one\n  |\n  a\n    | two\n    iB Inner\n  b Of b\n2A\n  | last\n"

// kids are provisions with labels.
func kids(labels ...string) []api.Item {
	var items []api.Item
	for _, label := range labels {
		items = append(items, api.Item{Label: label})
	}
	return items
}

// chain is a law with so many provisions within each other.
func chain(deep int) api.Item {
	var it api.Item
	for range deep {
		it = api.Item{Kids: []api.Item{it}}
		it.Kids[0].Label = "a"
	}
	return it
}

// wide is a law with so many provisions beside each other.
func wide(count int) api.Item {
	var l api.Item
	for i := range count {
		l.Kids = append(l.Kids, api.Item{Label: strconv.Itoa(i + 1)})
	}
	return l
}

// endless is a law whose provisions lie within themselves.
func endless() api.Item {
	list := kids("a", "b")
	list[0].Kids = list
	list[1].Kids = list[:1]
	return api.Item{Kids: list}
}

// blot writes into all memory of an item.
func blot(it api.Item) {
	for i := range it.Lines {
		it.Lines[i] = "blot"
	}
	for i := range it.Kids {
		blot(it.Kids[i])
		it.Kids[i].Label = "blot"
	}
}

func TestP30FindGoesInwards(t *testing.T) {
	l := house()
	for path, want := range map[string]api.Item{
		"":       l,
		"1":      l.Kids[0],
		"1/a":    l.Kids[0].Kids[0],
		"1/a/iB": l.Kids[0].Kids[0].Kids[0],
		"1/b":    l.Kids[0].Kids[1],
		"2A":     l.Kids[1],
	} {
		if got, ok := Find(l, path); !ok || !reflect.DeepEqual(got, want) {
			t.Errorf("%q: %v, %v; want %v", path, got, ok, want)
		}
	}
}

func TestP30FindOfWhatIsNotThere(t *testing.T) {
	l := house()
	for _, path := range []string{"a", "2", "2a", "1/c", "1/a/iB/x", "/", "/1", "1/", "1//a", "1/a/", " 1", "law", "01", "1/A", "\xff", strings.Repeat("1/", 100000)} {
		if got, ok := Find(l, path); ok || !reflect.DeepEqual(got, api.Item{}) {
			t.Errorf("%.20q: %v, %v", path, got, ok)
		}
	}
}

func TestP30FindTakesTheFirstAndComparesAsItIs(t *testing.T) {
	l := api.Item{Kids: []api.Item{
		{Label: "1", Head: "first", Kids: kids("a")},
		{Label: "1", Head: "second", Kids: kids("b")},
		{Label: "no label", Head: "words"},
		{Label: "x/y", Head: "mark"},
		{Label: "", Head: "none", Kids: []api.Item{{Label: "", Head: "none in none"}}},
	}}
	for path, want := range map[string]string{"1": "first", "no label": "words", "/": "none in none"} {
		if got, ok := Find(l, path); !ok || got.Head != want {
			t.Errorf("%q: %v, %v; want %q", path, got, ok, want)
		}
	}
	for _, path := range []string{"1/b", "x/y", "//"} {
		if got, ok := Find(l, path); ok {
			t.Errorf("%q: %v", path, got)
		}
	}
	if got, ok := Find(api.Item{Label: "7", Head: "any"}, ""); !ok || got.Head != "any" || got.Label != "7" {
		t.Errorf("the empty path: %v, %v", got, ok)
	}
}

func TestP4FindAnswersNewMemory(t *testing.T) {
	for _, path := range []string{"", "1", "1/a"} {
		l := house()
		got, _ := Find(l, path)
		blot(got)
		if !reflect.DeepEqual(l, house()) {
			t.Errorf("%q: what is answered lies in what was given: %v", path, l)
		}
	}
}

func TestP34EachIsAheadOfItsKids(t *testing.T) {
	l := house()
	wantPaths := []string{"1", "1/a", "1/a/iB", "1/b", "2A"}
	one := l.Kids[0]
	wantItems := []api.Item{one, one.Kids[0], one.Kids[0].Kids[0], one.Kids[1], l.Kids[1]}
	for _, most := range []int{math.MinInt, -1, 0, 1, 2, 3, 4, 5, 6, math.MaxInt} {
		paths, items := Each(l, most)
		count := min(max(most, 0), len(wantPaths))
		if len(paths) != count || len(items) != count {
			t.Errorf("at most %d: %v, %v", most, paths, items)
			continue
		}
		for i := range paths {
			if paths[i] != wantPaths[i] || !reflect.DeepEqual(items[i], wantItems[i]) {
				t.Errorf("at most %d: number %d is %q, %v", most, i, paths[i], items[i])
			}
		}
	}
	if paths, items := Each(api.Item{Label: "1", Lines: []string{"a"}}, 9); len(paths) != 0 || len(items) != 0 {
		t.Errorf("a law without provisions: %v, %v", paths, items)
	}
}

func TestP34EachOfLawsThatAreNotRight(t *testing.T) {
	l := api.Item{Label: "law", Kids: []api.Item{
		{Label: "", Kids: kids("x", "")},
		{Label: "1", Kids: kids("a")},
		{Label: "1", Kids: kids("b", "b")},
	}}
	want := []string{"", "/x", "/", "1", "1/a", "1", "1/b", "1/b"}
	if paths, _ := Each(l, 100); !slices.Equal(paths, want) {
		t.Errorf("%q; want %q", paths, want)
	}
	if paths, items := Each(wide(api.MaxItems+9), api.MaxItems+5); len(paths) != api.MaxItems+5 || len(items) != len(paths) {
		t.Errorf("%d paths, %d items", len(paths), len(items))
	}
	if paths, _ := Each(chain(50), 100); len(paths) != 50 || len(paths[49]) != 99 {
		t.Errorf("%d paths of a deep law", len(paths))
	}
}

func TestP34EachPathIsThatOfFind(t *testing.T) {
	l := house()
	paths, items := Each(l, 9)
	for i, path := range paths {
		if it, ok := Find(l, path); !ok || !reflect.DeepEqual(it, items[i]) {
			t.Errorf("%q: %v, %v; want %v", path, it, ok, items[i])
		}
	}
}

func TestP4EachAnswersNewMemory(t *testing.T) {
	l := house()
	_, items := Each(l, 9)
	for i := range items {
		_, want := Each(l, 9)
		blot(items[i])
		for k := i + 1; k < len(items); k++ {
			if !reflect.DeepEqual(items[k], want[k]) {
				t.Errorf("items %d and %d share memory", i, k)
			}
		}
	}
	if !reflect.DeepEqual(l, house()) {
		t.Errorf("what is answered lies in what was given: %v", l)
	}
}

func TestP1LawsWithinThemselves(t *testing.T) {
	l := endless()
	if err := Valid(l); err != api.ErrBound {
		t.Errorf("Valid: %v", err)
	}
	if text, err := Write(l); text != "" || err != api.ErrBound {
		t.Errorf("Write: %q, %v", text, err)
	}
	if it, ok := Find(l, "a/a/b/a/a"); !ok || it.Label != "a" {
		t.Errorf("Find: %v", ok)
	}
	paths, items := Each(l, math.MaxInt)
	if len(paths) < 2 || len(items) != len(paths) || paths[0] != "a" {
		t.Errorf("Each: %q", paths)
	}
}

func TestP1ProvisionsThatComeAgain(t *testing.T) {
	for size := range 5 {
		first := kids("x")
		last := first
		for range size {
			last[0].Kids = kids("x")
			last = last[0].Kids
		}
		last[0].Kids = first
		l := api.Item{Kids: []api.Item{{Label: "1", Kids: []api.Item{{Label: "a", Kids: first}}}}}
		if it, ok := Find(l, "1/a"); !ok || len(it.Kids) != 1 {
			t.Errorf("%d around: Find: %v", size, ok)
		}
		if paths, _ := Each(l, math.MaxInt); len(paths) < size+3 {
			t.Errorf("%d around: Each: %q", size, paths)
		}
	}
}

func TestP1VeryDeepLaws(t *testing.T) {
	l := chain(100000)
	if err := Valid(l); err != api.ErrBound {
		t.Errorf("Valid: %v", err)
	}
	if it, ok := Find(l, "a/a"); !ok || it.Label != "a" || len(it.Kids) != 1 {
		t.Errorf("Find: %v", ok)
	}
	if paths, items := Each(l, 3); len(paths) != 3 || len(items) != 3 || paths[2] != "a/a/a" {
		t.Errorf("Each: %q", paths)
	}
}
