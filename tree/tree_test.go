package tree

import (
	"reflect"
	"slices"
	"testing"
)

// bush is a tree of the tests.
type bush struct {
	name string
	own  []int
	kids []bush
}

const part = 50

func shape() Shape[bush] {
	return Shape[bush]{
		Kids: func(b *bush) *[]bush { return &b.kids },
		Own:  func(b *bush) { b.own = slices.Clone(b.own) },
		Part: part,
	}
}

func sizeOf(b bush) int {
	size := 1
	for _, kid := range b.kids {
		size += sizeOf(kid)
	}
	return size
}

func TestP4CopiesAreNewMemory(t *testing.T) {
	grow := func() bush {
		twigs := []bush{{name: "twig", own: []int{1, 2}}}
		return bush{"root", []int{3}, []bush{{"left", nil, twigs}, {"right", []int{4}, twigs}, {kids: []bush{}}}}
	}
	b := grow()
	c := shape().Copy(b)
	if !reflect.DeepEqual(b, c) {
		t.Errorf("%v; want %v", c, b)
	}
	c.own[0], c.kids[0].name, c.kids[0].kids[0].own[1] = 9, "blot", 9
	if !reflect.DeepEqual(b, grow()) || !reflect.DeepEqual(c.kids[1], grow().kids[1]) {
		t.Errorf("memory is shared: %v, %v", b, c)
	}
	if all := shape().Copies([]bush{b, b}); !reflect.DeepEqual(all, []bush{b, b}) || &all[0].kids[0] == &all[1].kids[0] {
		t.Errorf("%v", all)
	}
	if all := shape().Copies(nil); len(all) != 0 {
		t.Errorf("%v", all)
	}
}

func TestP1TreesWithoutAnEnd(t *testing.T) {
	for _, wide := range []int{1, 2, 3, 49, 50, 51, 1000} {
		kids := make([]bush, wide)
		for i := range kids {
			kids[i] = bush{own: []int{i}, kids: kids}
		}
		c := shape().Copy(bush{kids: kids})
		if size := sizeOf(c); size != part+1 {
			t.Errorf("%d beside each other: %d nodes", wide, size)
		}
		// What is less deep comes first.
		if len(c.kids) != min(wide, part) || wide <= 3 && len(c.kids[wide-1].kids) != wide {
			t.Errorf("%d beside each other: %d kids", wide, len(c.kids))
		}
		c.kids[0].own[0] = -1
		if kids[0].own[0] != 0 || c.kids[len(c.kids)-1].own[0] != len(c.kids)-1 && len(c.kids) > 1 {
			t.Errorf("%d beside each other: memory is shared", wide)
		}
	}
}

func TestP2WhatReadsTheSameIsCutOffAtTheSamePlace(t *testing.T) {
	var first bush
	for lists := 1; lists <= 5; lists++ {
		all := make([][]bush, lists)
		for i := range all {
			all[i] = []bush{{name: "a"}, {name: "b"}}
		}
		for i := range all {
			all[i][0].kids, all[i][1].kids = all[(i+1)%lists], all[(i+2)%lists]
		}
		c := shape().Copy(bush{kids: all[0]})
		if lists == 1 {
			first = c
		}
		if !reflect.DeepEqual(c, first) {
			t.Errorf("%d lists: another copy", lists)
		}
	}
}

func TestP1GreatTrees(t *testing.T) {
	for count, want := range map[int]int{maxWhole - 1: maxWhole, maxWhole: part + 1} {
		flat := bush{kids: make([]bush, count)}
		if size := sizeOf(shape().Copy(flat)); size != want {
			t.Errorf("%d kids: %d nodes; want %d", count, size, want)
		}
		deep := bush{}
		for range count {
			deep = bush{kids: []bush{deep}}
		}
		if size := sizeOf(shape().Copy(deep)); size != want {
			t.Errorf("%d deep: %d nodes; want %d", count, size, want)
		}
	}
}
