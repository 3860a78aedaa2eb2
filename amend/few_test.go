package amend

import (
	"math/rand"
	"strconv"
	"strings"
	"testing"

	"statute/api"
	"statute/script"
)

// group is a few provisions, and changes of them, as an act tells them; its law's labels have no capital letters.
type group struct{ name, law, act string }

// groups of which each change is needed.
func groups() []group {
	return []group{
		{"another label, and one moves out", "law\n1\n  k\n  a\n", "label 1: 2\nmove 2/a to law\n"},
		{"another label, and one moves in", "law\n1\n  k\na\n", "label 1: 2\nmove a to 2\n"},
		{"another label, and two move out", "law\n1\n  k\n  a\n  b\n", "label 1: 2\nmove 2/a to law\nmove 2/b to law\n"},
		{"another label, and what was beside it moves in", "law\n1\n2\n  1\n  k\n", "label 1: 3\nmove 2 to 3\n"},
		{"another label, and what moves in is changed", "law\n1\n  x\n  y\n2\n  a\n  k\n", "label 1: 3\nmove 2 to 3\nlabel 3/2/a: e\n"},
		{"others' labels, and what is in them", "law\n1\n  x\n  y\n  u\n2\n  z\n  w\n", "label 1: 3\nlabel 2: 1\nlabel 3: 2\nmove 1/z to 2\n"},
		{"one label on, and what is in them", "law\n1\n  x\n  y\n  u\n2\n  z\n  w\n3\n  p\n  q\n", "label 3: 4\nlabel 2: 3\nlabel 1: 2\nmove 2/x to 3\nmove 3/z to 4\nmove 4/p to 2\n"},
		{"it moves, and so does one in it", "law\n1\n  x\n  y\n  u\n2\n", "move 1 to 2\nmove 2/1/x to law\n"},
		{"it moves, and another one into it", "law\n1\n  x\n  y\n  u\n2\n3\n  k\n", "move 1 to 2\nmove 3/k to 2/1\n"},
		{"what was around it is in it", "law\n1\n  2\n    x\n    y\n  z\n", "move 1/2 to law\nmove 1 to 2\n"},
		{"another heading, and one moves in", "law\n1\n  k\n  l\na\n", "head 1: other\nmove a to 1\n"},
		{"another line, and one moves out", "law\n1\n  | one\n  k\n  a\n", "line 0 of 1: two\nmove 1/a to law\n"},
		{"another label, and the one that had it moves", "law\n1\n  a\n  b\n  c\n  d\n2\n  a\n", "move 1/c to 2/a\nmove 1/d to 2/a behind c\nlabel 1/a: d\n"},
		{"each into the other's place", "law\n1\n  a\n    k\n    l\n  b\n2\n  a\n    m\n    n\n  c\n", "move 1/a to law\nmove 2/a to 1\nmove a to 2\nmove 2/a/k to 1/a\nmove 1/a/m to 2/a\n"},
	}
}

// withMark puts two capital letters behind each label of a path, a number's.
func withMark(path string, number int) string {
	if path == "" {
		return ""
	}
	mark := string([]byte{byte('A' + number/26), byte('A' + number%26)})
	return strings.ReplaceAll(path, "/", mark+"/") + mark
}

// marked is an item whose labels are marked, and which has headings, if they are asked for, that no other one has.
func marked(it api.Item, number int, headings bool) api.Item {
	it.Label = withMark(it.Label, number)
	if headings {
		it.Head = strings.TrimSpace("heading of " + it.Label + " " + it.Head)
	}
	kids := it.Kids
	it.Kids = nil
	for _, kid := range kids {
		it.Kids = append(it.Kids, marked(kid, number, headings))
	}
	return it
}

func markedOp(o api.Op, number int) api.Op {
	o.Path, o.At = withMark(o.Path, number), withMark(o.At, number)
	switch o.Kind {
	case api.OLabel:
		o.Text = withMark(o.Text, number)
	case api.OMove:
		o.New = withMark(o.New, number)
	}
	return o
}

// checkGroup lays as many of a group beside each other as the bounds allow: all changes together are at most MaxOps, so there are changes.
func checkGroup(t *testing.T, g group, headings bool) {
	t.Helper()
	l := lawOf(t, g.law)
	act, err := ReadAct("act A made 2026-01-01 from 2026-01-01\n" + g.act)
	if err != nil {
		t.Fatal(g.name, err)
	}
	var a api.Item
	var ops []api.Op
	for i := 0; len(ops)+len(act.Ops) <= api.MaxOps && i*(size(l)-1)+size(l) <= api.MaxItems; i++ {
		a.Kids = append(a.Kids, marked(l, i, headings).Kids...)
		for _, o := range act.Ops {
			ops = append(ops, markedOp(o, i))
		}
	}
	b, err := Apply(a, ops)
	if err != nil {
		t.Fatal(g.name, err)
	}
	if got := fewest(a, b, len(ops)); len(got) > len(ops) {
		t.Errorf("%s: %d changes, %d do", g.name, len(got), len(ops))
	}
	if n := checkBetween(t, a, b); n > api.MaxOps {
		t.Errorf("%s: %d changes", g.name, n)
	}
}

func TestP42ManyLabelsAndMoves(t *testing.T) {
	for _, g := range groups() {
		checkGroup(t, g, true)
		checkGroup(t, g, false)
	}
}

// tagged gives each provision a line of its own, by which it is found again.
func tagged(it api.Item, next *int) api.Item {
	it.Lines = []string{strconv.Itoa(*next)}
	*next++
	kids := it.Kids
	it.Kids = nil
	for _, kid := range kids {
		it.Kids = append(it.Kids, tagged(kid, next))
	}
	return it
}

func untagged(it api.Item) api.Item {
	it = script.Copy(it)
	it.Lines = nil
	for i, kid := range it.Kids {
		it.Kids[i] = untagged(kid)
	}
	return it
}

// pathOf is where a tagged provision is; empty: it is gone.
func pathOf(l api.Item, tag int) string {
	paths, items := script.Each(l, api.MaxItems)
	for i, it := range items {
		if len(it.Lines) == 1 && it.Lines[0] == strconv.Itoa(tag) {
			return paths[i]
		}
	}
	return ""
}

// soberOps are changes of a law of which most are needed: each provision has at most one.
func soberOps(r *rand.Rand, a api.Item) (b api.Item, count int) {
	tags := 0
	b = tagged(a, &tags)
	for _, tag := range r.Perm(tags)[:r.Intn(tags+1)] {
		path := pathOf(b, tag)
		o := someOp(r, b)
		if path == "" || o.Kind == api.OLine || o.Kind == api.OAdd || o.Kind == api.ODrop || o.Kind == api.OWords {
			continue
		}
		o.Path = path
		if next, err := Apply(b, []api.Op{o}); err == nil {
			b = next
			count++
		}
	}
	return untagged(b), count
}

func TestP42AsFewAsWereMade(t *testing.T) {
	r := rand.New(rand.NewSource(4242))
	for range 800 {
		a := untagged(someLaw(r, 1+r.Intn(5), 1+r.Intn(5)))
		b, count := soberOps(r, a)
		if script.Valid(a) != nil || count > api.MaxOps {
			continue
		}
		if got := fewest(a, b, count); len(got) > count {
			t.Fatalf("%s and %s: %d changes, %d do: %s", short(a), short(b), len(got), count, short(got))
		}
		checkBetween(t, a, b)
	}
}

// plainLaw is a law whose provisions are told apart by little but their places.
func plainLaw(r *rand.Rand) api.Item {
	l := untagged(someLaw(r, 3, 4))
	var plain func(it *api.Item)
	plain = func(it *api.Item) {
		if it.Head != "three" {
			it.Head = ""
		}
		for i := range it.Kids {
			plain(&it.Kids[i])
		}
	}
	plain(&l)
	l.Head = ""
	return l
}

func TestP42HoweverLongItIsSearched(t *testing.T) {
	r := rand.New(rand.NewSource(42420))
	for range 500 {
		a, b := plainLaw(r), plainLaw(r)
		if script.Valid(a) != nil || script.Valid(b) != nil {
			continue
		}
		ops := fewest(a, b, 0)
		if len(ops) > api.MaxOps {
			continue
		}
		if got, err := Apply(a, ops); err != nil || !same(got, b) {
			t.Fatalf("%s and %s: %s: %v", short(a), short(b), short(ops), err)
		}
	}
}

// treeAt is the tree with a path.
func treeAt(t *testing.T, all []*tree, path string) *tree {
	t.Helper()
	for _, x := range all {
		if x.path() == path {
			return x
		}
	}
	t.Fatal("nothing is at", path)
	return nil
}

// checkCouples holds how many changes there are, if the provisions of a law become given ones of another, against how many do.
func checkCouples(t *testing.T, a, b string, want int, paths ...string) {
	t.Helper()
	n := numbers{}
	from, to := n.tree(lawOf(t, a), nil).all(nil), n.tree(lawOf(t, b), nil).all(nil)
	couple(from[0], to[0])
	for _, p := range paths {
		old, young, _ := strings.Cut(p, ">")
		couple(treeAt(t, from, old), treeAt(t, to, young))
	}
	markOrder(from)
	ops, ok := changes(from, to)
	if !ok || len(ops) != want {
		t.Errorf("%v: %d changes, want %d: %+v", paths, len(ops), want, ops)
	}
	if got, err := Apply(lawOf(t, a), ops); err != nil || !same(got, lawOf(t, b)) {
		t.Errorf("%v: %+v: %v", paths, ops, err)
	}
}

func TestP42InEachOthersWay(t *testing.T) {
	const two = "law\n1 x\n2 y\n"
	checkCouples(t, two, "law\n2 x\n1 y\n", 3, "1>2", "2>1")
	checkCouples(t, two, "law\n1 y\n2 x\n", 4, "1>2", "2>1")
	checkCouples(t, "law\na\nb\nc\nd\ne\n", "law\nb\na\nd\ne\nc\n", 7, "a>b", "b>a", "c>d", "d>e", "e>c")
	// Each goes where the other one is: one waits elsewhere.
	const moved = "law\n1\n  a x\n2\n  a y\n"
	checkCouples(t, moved, "law\n1\n  a y\n2\n  a x\n", 3, "1>1", "2>2", "1/a>2/a", "2/a>1/a")
	// There is an a everywhere, and what is not there is too deep: it gets another label for a while.
	const deep = "\n    b\n      c\n        d\n          e\n"
	const around = "law\na\n  a\n1\n  a x" + deep + "2\n  a y" + deep
	rest := []string{"a>a", "a/a>a/a", "1>1", "2>2"}
	for _, inner := range []string{"", "/b", "/b/c", "/b/c/d", "/b/c/d/e"} {
		rest = append(rest, "1/a"+inner+">2/a"+inner, "2/a"+inner+">1/a"+inner)
	}
	checkCouples(t, around, "law\na\n  a\n1\n  a y"+deep+"2\n  a x"+deep, 4, rest...)
	// What it is to lie in lies in it, and goes where it is.
	checkCouples(t, "law\n1\na x\n  a y\n    m\n", "law\n1\na y\n  m\n  a x\n", 3, "1>1", "a>a/a", "a/a>a", "a/a/m>a/m")
	// It is too deep, as long as the one that goes where it is lies in it.
	const stairs = "2\n  3\n    4\n      5\n"
	checkCouples(t, "law\n1\n  a x\n    k\n    a y\n      m\n"+stairs, "law\n1\n  a y\n    m\n"+stairs+"        a x\n          k\n", 3,
		"1>1", "1/a>2/3/4/5/a", "1/a/k>2/3/4/5/a/k", "1/a/a>1/a", "1/a/a/m>1/a/m", "2>2", "2/3>2/3", "2/3/4>2/3/4", "2/3/4/5>2/3/4/5")
	// Another label and another place: the label is free at one of both.
	checkCouples(t, "law\n1\n  a x\n  b y\n2\n", "law\n1\n  b y\n2\n  b x\n", 2, "1>1", "2>2", "1/b>1/b", "1/a>2/b")
	checkCouples(t, "law\n1\n  a x\n2\n  a y\n", "law\n1\n2\n  b x\n  a y\n", 2, "1>1", "2>2", "2/a>2/a", "1/a>2/b")
}
