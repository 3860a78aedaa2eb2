package amend

import (
	"math/rand"
	"slices"
	"testing"

	"statute/api"
	"statute/script"
)

// checkApart holds two changes against each other, both ways round.
func checkApart(t *testing.T, a, b api.Op, want bool) {
	t.Helper()
	if Apart([]api.Op{a}, []api.Op{b}) != want || Apart([]api.Op{b}, []api.Op{a}) != want {
		t.Errorf("%+v, %+v: not %v", a, b, want)
	}
}

// at is a change of a kind at a path.
func at(kind int, path string) api.Op { return api.Op{Kind: kind, Path: path} }

// putAt is a provision with a label that is put.
func putAt(path, label string) api.Op {
	return api.Op{Kind: api.OPut, Path: path, Item: api.Item{Label: label}}
}

func labelAs(path, label string) api.Op { return api.Op{Kind: api.OLabel, Path: path, Text: label} }

func moveTo(path, to string) api.Op { return api.Op{Kind: api.OMove, Path: path, New: to} }

func TestP41HeadingsAndLines(t *testing.T) {
	lines := []int{api.OLine, api.OAdd, api.ODrop, api.OWords}
	for _, a := range lines {
		for _, b := range lines {
			checkApart(t, at(a, "1"), at(b, "1"), false)
			checkApart(t, at(a, "1"), at(b, "1/a"), true)
			checkApart(t, at(a, ""), at(b, "1"), true)
			checkApart(t, at(a, ""), at(b, ""), false)
		}
		checkApart(t, at(a, "1"), at(api.OHead, "1"), true)
		checkApart(t, at(a, "1"), putAt("1", "a"), true)
		checkApart(t, at(a, "1"), at(api.ORepeal, "1"), false)
		checkApart(t, at(a, "1/a"), at(api.ORepeal, "1"), false)
	}
	checkApart(t, at(api.OHead, "1"), at(api.OHead, "1"), false)
	checkApart(t, at(api.OHead, "1"), at(api.OHead, "2"), true)
	checkApart(t, at(api.OHead, "1"), at(api.OHead, "10"), true)
	checkApart(t, at(api.OHead, ""), at(api.OHead, "1"), true)
}

func TestP41WhatIsPutOrGoes(t *testing.T) {
	checkApart(t, putAt("1", "c"), putAt("1", "d"), false)
	checkApart(t, putAt("1", "c"), putAt("2", "c"), true)
	checkApart(t, putAt("1", "c"), putAt("", "1A"), true)
	checkApart(t, putAt("1", "c"), putAt("", "1"), false)
	checkApart(t, putAt("1", "c"), putAt("1/c", "i"), false)
	checkApart(t, putAt("1", "c"), putAt("1/b", "i"), true)
	checkApart(t, putAt("1", "c"), at(api.OHead, "1/c"), false)
	checkApart(t, putAt("1", "c"), at(api.OHead, "1/cA"), true)
	checkApart(t, putAt("", "c"), at(api.OHead, "c/a"), false)
	checkApart(t, at(api.ORepeal, "1/a"), at(api.ORepeal, "1/b"), false)
	checkApart(t, at(api.ORepeal, "1/a"), at(api.ORepeal, "2"), true)
	checkApart(t, at(api.ORepeal, "1/a"), at(api.ORepeal, "1"), false)
	checkApart(t, at(api.ORepeal, "1"), at(api.OHead, "10/a"), true)
	checkApart(t, at(api.ORepeal, "2/b"), at(api.OHead, "3"), true)
	checkApart(t, at(api.ORepeal, "1/a"), putAt("", "3"), true)
	checkApart(t, at(api.ORepeal, ""), at(api.OHead, "1/a"), false)
	checkApart(t, at(api.ORepeal, ""), at(api.OHead, ""), false)
}

func TestP41LabelsAndMoves(t *testing.T) {
	checkApart(t, labelAs("1/a", "c"), at(api.OHead, "1/a"), false)
	checkApart(t, labelAs("1/a", "c"), at(api.OHead, "1/c/i"), false)
	checkApart(t, labelAs("1/a", "c"), at(api.OHead, "1"), true)
	checkApart(t, labelAs("1/a", "c"), at(api.OHead, "1/b"), true)
	checkApart(t, labelAs("1/a", "c"), at(api.OHead, "c"), true)
	checkApart(t, labelAs("1/a", "c"), at(api.ORepeal, "1/b"), false)
	checkApart(t, labelAs("1", "3"), at(api.OHead, "3"), false)
	checkApart(t, labelAs("1", "3"), at(api.OHead, "2"), true)
	checkApart(t, labelAs("1", "3"), putAt("", "4"), false)
	checkApart(t, moveTo("1/a", "2"), at(api.OHead, "1/a/i"), false)
	checkApart(t, moveTo("1/a", "2"), at(api.OHead, "2/a"), false)
	checkApart(t, moveTo("1/a", "2"), at(api.OHead, "2/b"), true)
	checkApart(t, moveTo("1/a", "2"), at(api.OHead, "a"), true)
	checkApart(t, moveTo("1/a", "2"), at(api.ORepeal, "1/b"), false)
	checkApart(t, moveTo("1/a", "2"), at(api.ORepeal, "2/b"), false)
	checkApart(t, moveTo("1/a", "2"), at(api.ORepeal, "2"), false)
	checkApart(t, moveTo("1/a", "2"), at(api.ORepeal, "3"), true)
	checkApart(t, moveTo("1/a", ""), at(api.OHead, "a"), false)
	checkApart(t, moveTo("1/a", ""), putAt("", "4"), false)
	checkApart(t, moveTo("1/a", "2"), moveTo("3/a", "4"), true)
	checkApart(t, moveTo("1/a", "2"), moveTo("3/b", "2"), false)
}

func TestP41Lists(t *testing.T) {
	some := []api.Op{at(api.OHead, "1"), at(api.ODrop, "2"), at(api.ORepeal, "3/a")}
	if !Apart(nil, nil) || !Apart(some, nil) || !Apart(nil, some) || Apart(some, some) {
		t.Error("none, or the same")
	}
	if !Apart(some, []api.Op{at(api.OHead, "2"), at(api.ODrop, "1"), at(api.ORepeal, "4/a")}) {
		t.Error("nothing meets")
	}
	for i := range some {
		others := []api.Op{at(api.OHead, "9"), at(api.OLine, "9"), some[i]}
		if Apart(some, others) || Apart(others, some) {
			t.Errorf("%v meets itself", some[i])
		}
	}
	// A kind that is none touches nothing.
	if !Apart(some, []api.Op{at(0, "1"), at(-1, "2"), at(10, "3")}) || !Apart([]api.Op{{}}, []api.Op{{}}) {
		t.Error("other kinds")
	}
}

func TestP41ApartChangesInAnyOrder(t *testing.T) {
	r := rand.New(rand.NewSource(41))
	apart := 0
	for range 30000 {
		l := someLaw(r, 3, 3)
		a, b := someOps(r, l, 1+r.Intn(2)), someOps(r, l, 1+r.Intn(2))
		_, errA := Apply(l, a)
		_, errB := Apply(l, b)
		if errA != nil || errB != nil || !Apart(a, b) {
			continue
		}
		apart++
		ab, err := Apply(l, slices.Concat(a, b))
		ba, other := Apply(l, slices.Concat(b, a))
		if err != nil || other != nil || formOf(t, ab) != formOf(t, ba) {
			t.Fatalf("%+v and %+v of %v: %v, %v", a, b, l, err, other)
		}
	}
	if apart < 1000 {
		t.Errorf("only %d were apart", apart)
	}
}

// someLabel is one of a few, so that many provisions have the same one.
func someLabel(r *rand.Rand) string {
	labels := []string{"1", "2", "3", "4", "a", "b", "c", "1A", "aB", "law"}
	return labels[r.Intn(len(labels))]
}

// someItem is a provision with others in it, at most so many deep, and so many beside each other.
func someItem(r *rand.Rand, deep, most int) api.Item {
	texts := []string{"", "one", "two", "one two", "three"}
	it := api.Item{Label: someLabel(r), Head: texts[r.Intn(len(texts))]}
	for range r.Intn(4) {
		it.Lines = append(it.Lines, texts[r.Intn(len(texts))])
	}
	if deep == 0 {
		return it
	}
	for range r.Intn(most + 1) {
		kid := someItem(r, deep-1, most)
		if labelled(it.Kids, kid.Label) < 0 {
			it.Kids = append(it.Kids, kid)
		}
	}
	return it
}

// someLaw is a law that is right.
func someLaw(r *rand.Rand, deep, most int) api.Item {
	l := someItem(r, deep, most)
	l.Label = ""
	return l
}

// someOp is a change that can often be made of a law.
func someOp(r *rand.Rand, l api.Item) api.Op {
	paths, _ := script.Each(l, api.MaxItems)
	paths = append(paths, "")
	some := func() string { return paths[r.Intn(len(paths))] }
	o := api.Op{Kind: 1 + r.Intn(api.OMove), Path: some(), Text: "one", Line: r.Intn(4)}
	outer := o.Path
	switch o.Kind {
	case api.OWords:
		o.New = "1"
	case api.OPut:
		o.Item = someItem(r, 1, 2)
	case api.OLabel:
		o.Text = someLabel(r)
	case api.OMove:
		o.New = some()
		outer = o.New
	}
	if it, _ := script.Find(l, outer); len(it.Kids) > 0 && r.Intn(3) > 0 {
		o.At = it.Kids[r.Intn(len(it.Kids))].Label
	}
	return o
}

// someOps are so many changes of a law, each made for what comes of those ahead, if they can be made.
func someOps(r *rand.Rand, l api.Item, count int) []api.Op {
	var ops []api.Op
	for range count {
		o := someOp(r, l)
		if next, err := Apply(l, []api.Op{o}); err == nil {
			l = next
		}
		ops = append(ops, o)
	}
	return ops
}
