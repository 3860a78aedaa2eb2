package amend

import (
	"fmt"
	"math/rand"
	"reflect"
	"slices"
	"strconv"
	"strings"
	"testing"

	"statute/api"
	"statute/script"
)

// same tells whether two items are the same; a nil list and an empty one are.
func same(a, b api.Item) bool {
	return a.Label == b.Label && a.Head == b.Head && slices.Equal(a.Lines, b.Lines) && slices.EqualFunc(a.Kids, b.Kids, same)
}

// checkBetween tells how many changes make one law of another, which they must.
func checkBetween(t *testing.T, a, b api.Item) int {
	t.Helper()
	ops, err := Between(a, b)
	if err != nil {
		t.Fatalf("%s and %s: %v", short(a), short(b), err)
	}
	got, err := Apply(a, ops)
	if err != nil || !same(got, b) {
		t.Fatalf("%s and %s: %s: %s, %v", short(a), short(b), short(ops), short(got), err)
	}
	return len(ops)
}

// checkCount holds how many changes there are between two laws, both ways, against how many do.
func checkCount(t *testing.T, a, b api.Item, most int) {
	t.Helper()
	if n := max(checkBetween(t, a, b), checkBetween(t, b, a)); n > most {
		t.Errorf("%s and %s: %d changes; %d do", short(a), short(b), n, most)
	}
}

// short is the first part of what is told of something.
func short(what any) string { return fmt.Sprintf("%.500s", fmt.Sprintf("%+v", what)) }

func TestP42FewChanges(t *testing.T) {
	l := lawOf(t, houses)
	checkCount(t, l, l, 0)
	checkCount(t, api.Item{}, api.Item{}, 0)
	checkCount(t, l, api.Item{}, 4)
	for _, c := range []struct {
		old, young string
		most       int
	}{
		{"law Of houses", "law", 1},
		{"| who reads", "| who writes", 1},
		{"| who reads\n", "", 1},
		{"  | three\n", "  | two\n  | three\n  |\n", 2},
		{"  a Doors\n    | x\n    i\n  b\n", "  b\n  a Doors\n    | x\n    i\n", 1},
		{"a Doors", "c Doors", 1},
		{"    i\n  b\n", "    i\n      b\n", 1},
		{"  b\n2\n  | aaa\n", "2\n  | aaa\n  b\n", 1},
		{"    i\n", "    i\n      a\n        a\n", 1},
		{"  a Doors\n    | x\n    i\n  b\n", "", 2},
		{"1 First\n  | one two one\n  | three\n  a Doors\n    | x\n    i\n  b\n2\n  | aaa\n", "law\n  a\n    | three\n", 3},
	} {
		checkCount(t, l, lawOf(t, changed(t, houses, c.old, c.young)), c.most)
	}
}

// numbered is a law with so many provisions whose headings are different, from a number on.
func numbered(first, count int) api.Item {
	l := wide(count)
	for i := range l.Kids {
		l.Kids[i].Head = "number " + strconv.Itoa(first+i)
	}
	return l
}

func TestP42GreatLaws(t *testing.T) {
	l := numbered(0, api.MaxItems)
	kids := func(list ...[]api.Item) api.Item { return api.Item{Kids: slices.Concat(list...)} }
	checkCount(t, l, kids(l.Kids[1:], l.Kids[:1]), 1)
	checkCount(t, l, kids(l.Kids[50:100], l.Kids[:50], l.Kids[100:]), 50)
	checkCount(t, l, kids(l.Kids[:100], l.Kids[200:]), 100)
	checkCount(t, kids(l.Kids[:1]), kids([]api.Item{{Label: "1", Kids: l.Kids[1:]}}), 2)
	checkCount(t, kids([]api.Item{{Label: "1", Kids: l.Kids[:200]}}), kids([]api.Item{{Label: "1", Kids: l.Kids[100:]}}), 2)
	// One more ahead of all, and each that follows has the next number.
	checkCount(t, numbered(1, api.MaxOps-1), numbered(0, api.MaxOps), api.MaxOps)

	crossing := func(from int) api.Item {
		l := wide(2 * api.MaxOps)
		for i := range api.MaxOps {
			l.Kids[from+i].Kids = []api.Item{{Label: "a", Head: "number " + strconv.Itoa(i)}}
		}
		return l
	}
	checkCount(t, crossing(0), crossing(api.MaxOps), api.MaxOps)
	checkCount(t, crossing(0), crossing(1), api.MaxOps)
}

func TestP42Rings(t *testing.T) {
	// The first two have each other's label, the next two each other's content, and what is in them changes places.
	const a = "law\n1 x\n  | 1\n2 y\n  | 2\n3 x\n  | 3\n  a\n4 y\n  | 4\n  b\n5\n  a x\n    | 1\n6\n  a y\n    | 2\n"
	const b = "law\n2 x\n  | 1\n1 y\n  | 2\n4 x\n  | 3\n  a\n3 y\n  | 4\n  b\n5\n  a y\n    | 2\n6\n  a x\n    | 1\n"
	checkCount(t, lawOf(t, a), lawOf(t, b), 9)
}

func TestP42LinesUpToTheBound(t *testing.T) {
	lines := func(from int) api.Item {
		var l api.Item
		for i := range api.MaxLines {
			l.Lines = append(l.Lines, "line "+strconv.Itoa(from+i))
		}
		return l
	}
	checkCount(t, lines(0), lines(1), 2)
	checkCount(t, lines(0), lines(api.MaxLines), api.MaxLines)
	checkCount(t, lines(0), lines(api.MaxLines/2), api.MaxLines)
	checkCount(t, lines(0), api.Item{}, api.MaxLines)
}

// size is what the document counts: provisions, the law and all lines.
func size(it api.Item) int {
	n := 1 + len(it.Lines)
	for _, kid := range it.Kids {
		n += size(kid)
	}
	return n
}

func TestP42NeverABoundInSmallLaws(t *testing.T) {
	r := rand.New(rand.NewSource(42))
	small := 0
	for range 10000 {
		a, b := someLaw(r, 1+r.Intn(api.MaxDeep), 4), someLaw(r, 1+r.Intn(api.MaxDeep), 4)
		if script.Valid(a) != nil || script.Valid(b) != nil || size(a)+size(b) > api.MaxOps {
			continue
		}
		small++
		if n := checkBetween(t, a, b); n > size(a)+size(b) {
			t.Fatalf("%v, %v: %d changes", a, b, n)
		}
	}
	if small < 1000 {
		t.Errorf("only %d were small", small)
	}
	for count := range api.MaxOps - 1 {
		b := numbered(0, api.MaxOps-2-count)
		slices.Reverse(b.Kids)
		checkCount(t, wide(count), b, api.MaxOps)
	}
}

func TestP42WhatComesOfChanges(t *testing.T) {
	r := rand.New(rand.NewSource(420))
	for range 1000 {
		a := someLaw(r, 3, 6)
		if script.Valid(a) != nil {
			continue
		}
		b := a
		for _, o := range someOps(r, a, r.Intn(40)) {
			if next, err := Apply(b, []api.Op{o}); err == nil {
				b = next
			}
		}
		checkBetween(t, a, b)
	}
}

func TestP42NoChanges(t *testing.T) {
	others := numbered(0, api.MaxItems)
	slices.Reverse(others.Kids)
	for _, c := range []struct {
		a, b api.Item
		want error
	}{
		{api.Item{Label: "1"}, api.Item{Head: " "}, api.ErrName},
		{api.Item{Head: " "}, api.Item{Label: "1"}, api.ErrText},
		{api.Item{}, api.Item{Label: "1"}, api.ErrName},
		{api.Item{}, wide(api.MaxItems + 1), api.ErrBound},
		{endless(""), api.Item{}, api.ErrBound},
		{api.Item{}, endless(""), api.ErrBound},
		{wide(api.MaxOps + 1), api.Item{}, api.ErrBound},
		{api.Item{}, wide(api.MaxOps + 1), api.ErrBound},
		{api.Item{Head: "x"}, wide(api.MaxOps), api.ErrBound},
		{numbered(0, api.MaxItems), others, api.ErrBound},
	} {
		if ops, err := Between(c.a, c.b); err != c.want || ops != nil {
			t.Errorf("%d changes, %v; want %v", len(ops), err, c.want)
		}
	}
	checkCount(t, api.Item{}, wide(api.MaxOps), api.MaxOps)
}

func TestP4BetweenSharesNothing(t *testing.T) {
	a, b := lawOf(t, "law\n"), lawOf(t, houses)
	ops, err := Between(a, b)
	if err != nil || formOf(t, b) != houses {
		t.Fatal(err)
	}
	want, _ := Between(a, lawOf(t, houses))
	blot(b)
	if !reflect.DeepEqual(ops, want) {
		t.Error("what was handed over shows in the answer")
	}
	for _, o := range ops {
		blot(o.Item)
	}
	if again, _ := Between(a, lawOf(t, houses)); !reflect.DeepEqual(again, want) {
		t.Error("what was written into an answer shows in another one")
	}
	c := lawOf(t, houses)
	if ops, err = Between(a, c); err != nil {
		t.Fatal(err)
	}
	for _, o := range ops {
		blot(o.Item)
	}
	if formOf(t, c) != houses {
		t.Error("what is written into the answer shows in what was handed over")
	}
}

func TestP42LongTexts(t *testing.T) {
	l := wide(api.MaxItems)
	for i := range l.Kids {
		l.Kids[i].Lines = slices.Repeat([]string{strings.Repeat("x", api.MaxLine-3) + strconv.Itoa(100+i)}, api.MaxLines)
	}
	b := script.Copy(l)
	b.Kids[7].Lines[7] = "y"
	checkCount(t, l, b, 1)
}
