package tree

import (
	"reflect"
	"slices"
	"testing"
)

// bush is a tree of the tests.
type bush struct {
	name string
	own  []int
	kids []bush
}

const (
	whole = 10000
	part  = 50
)

func shape() Shape[bush] {
	return Shape[bush]{
		Kids:   func(b *bush) *[]bush { return &b.kids },
		Own:    func(b *bush) { b.own = slices.Clone(b.own) },
		Weight: func(b *bush) int { return 1 + len(b.own) },
		Whole:  whole,
		Part:   part,
	}
}

// weightOf a tree that has an end.
func weightOf(b bush) int {
	weight := 1 + len(b.own)
	for _, kid := range b.kids {
		weight += weightOf(kid)
	}
	return weight
}

// copiesOf trees, and how many of them were taken.
func copiesOf(trees ...bush) ([]bush, int) {
	c := shape().Scale().Copier()
	for i := range trees {
		if !c.Take(&trees[i]) {
			return c.Copies(), i
		}
	}
	return c.Copies(), len(trees)
}

// flat is a tree with so many kids.
func flat(count int) bush { return bush{kids: make([]bush, count)} }

// deep is a tree with so many nodes within each other under the first one.
func deep(count int) bush {
	b := bush{}
	for range count {
		b = bush{kids: []bush{b}}
	}
	return b
}

// doubled is a tree in which there are twice as many nodes from level to level; each level is one list in memory.
func doubled(levels int) bush {
	b := bush{}
	for range levels {
		b = bush{kids: []bush{b, b}}
	}
	return b
}

// round is a tree without an end: so many lists within each other, the last one within the first, each with so many nodes.
func round(lists, wide int) bush {
	all := make([][]bush, lists)
	for i := range all {
		all[i] = make([]bush, wide)
	}
	for i := range all {
		for k := range all[i] {
			all[i][k].kids = all[(i+1+k)%lists]
		}
	}
	return bush{kids: all[0]}
}

func TestP4CopiesAreNewMemory(t *testing.T) {
	grow := func() bush {
		twigs := []bush{{name: "twig", own: []int{1, 2}}}
		return bush{"root", []int{3}, []bush{{"left", nil, twigs}, {"right", []int{4}, twigs}, {kids: []bush{}}}}
	}
	b := grow()
	c := shape().Copy(b)
	if !reflect.DeepEqual(b, c) {
		t.Errorf("%v; want %v", c, b)
	}
	c.own[0], c.kids[0].name, c.kids[0].kids[0].own[1] = 9, "blot", 9
	if !reflect.DeepEqual(b, grow()) || !reflect.DeepEqual(c.kids[1], grow().kids[1]) {
		t.Errorf("memory is shared: %v, %v", b, c)
	}
	all, _ := copiesOf(b, b, b.kids[0])
	if !reflect.DeepEqual(all, []bush{b, b, b.kids[0]}) {
		t.Errorf("%v", all)
	}
	all[0].kids[0].kids[0].own[0] = 9
	if !reflect.DeepEqual(all[1:], []bush{grow(), grow().kids[0]}) || !reflect.DeepEqual(b, grow()) {
		t.Errorf("memory is shared: %v", all)
	}
	if none, _ := copiesOf(); len(none) != 0 {
		t.Errorf("%v", none)
	}
}

// roomy is a tree in which lists are empty, but have room behind them, in which something stands.
func roomy() (b bush, rooms [][]bush) {
	room := func() []bush {
		rooms = append(rooms, []bush{{name: "room"}})
		return rooms[len(rooms)-1][:0]
	}
	return bush{kids: []bush{{kids: room()}, {kids: []bush{{name: "twig", kids: room()}, {}}}, {kids: room()}}}, rooms
}

// growAll puts a kid more into each list of a tree.
func growAll(b *bush) {
	for i := range b.kids {
		growAll(&b.kids[i])
	}
	b.kids = append(b.kids, bush{name: "blot"})
}

func TestP4TheRoomBehindEmptyListsIsNotShared(t *testing.T) {
	alone, rooms := roomy()
	endless, others := roomy()
	endless.kids[1].kids[1].kids = endless.kids
	bare := bush{kids: rooms[0][:0]}
	copies := []bush{shape().Copy(alone), shape().Copy(endless), shape().Copy(bare)}
	all, _ := copiesOf(alone, endless, bare, alone.kids[1], alone.kids[0])
	copies = append(copies, all...)
	if want, _ := roomy(); !reflect.DeepEqual(copies[0], want) {
		t.Errorf("%v; want %v", copies[0], want)
	}
	for i := range copies {
		growAll(&copies[i])
		for k, room := range slices.Concat(rooms, others) {
			if room[0].name != "room" {
				t.Fatalf("copy %d: what is put into it shows in room %d", i, k)
			}
		}
	}
}

func TestWeights(t *testing.T) {
	for want, b := range map[int]bush{
		1:         {},
		4:         {own: make([]int, 3)},
		6:         {kids: []bush{{own: make([]int, 3)}, {}}},
		8191:      doubled(12),
		whole:     deep(whole - 1),
		whole - 1: flat(whole - 2),
	} {
		if got := shape().Scale().Weigh(&b); got != want {
			t.Errorf("%d; want %d", got, want)
		}
	}
	for i, b := range []bush{flat(whole), deep(whole), doubled(13), doubled(100), {own: make([]int, whole)}, {own: make([]int, 3*whole)}, round(1, 1), round(3, 2), {kids: []bush{{}, deep(3), round(2, 2), {}}}} {
		if got := shape().Scale().Weigh(&b); got != whole+1 {
			t.Errorf("number %d: %d", i, got)
		}
	}
}

func TestWeightsOfPartsOfOneTree(t *testing.T) {
	b := bush{kids: []bush{deep(3), round(2, 2), {}, doubled(2)}}
	for range 2 {
		s := shape().Scale()
		order := []int{1, 3, 0, 2}
		for _, first := range []bool{true, false} {
			if got := s.Weigh(&b); first && got != whole+1 {
				t.Error(got)
			}
			for _, i := range order {
				if got, want := s.Weigh(&b.kids[i]), []int{4, whole + 1, 1, 7}[i]; got != want {
					t.Errorf("kid %d: %d, want %d", i, got, want)
				}
			}
			slices.Reverse(order)
		}
	}
}

func TestWhatHasAnEndIsCopiedWhole(t *testing.T) {
	for i, b := range []bush{deep(whole - 1), flat(whole - 1), doubled(12), {own: make([]int, whole-1)}} {
		if c := shape().Copy(b); !reflect.DeepEqual(b, c) {
			t.Errorf("number %d: another tree", i)
		}
		if all, taken := copiesOf(b); taken != 1 || !reflect.DeepEqual(all[0], b) {
			t.Errorf("number %d: another tree", i)
		}
	}
}

func TestP1WhatIsTooHeavyIsCopiedInPart(t *testing.T) {
	for i, b := range []bush{deep(whole), flat(whole), doubled(13), doubled(100), round(1, 1), round(2, 3), round(1, part), round(3, part+1), round(1, 1000)} {
		if weight := weightOf(shape().Copy(b)); weight != part+1 {
			t.Errorf("number %d: %d", i, weight)
		}
		all, _ := copiesOf(b)
		if weight := weightOf(all[0]); weight != part+1 {
			t.Errorf("number %d: %d", i, weight)
		}
	}
	// What is less deep comes first.
	if c := shape().Copy(round(2, 3)); len(c.kids) != 3 || len(c.kids[2].kids) != 3 || len(c.kids[0].kids[0].kids) != 3 {
		t.Errorf("%v", c)
	}
	// What a node has by itself counts, but for the first one.
	heavy := round(1, 1)
	heavy.own, heavy.kids[0].own = make([]int, 500), make([]int, 19)
	if c := shape().Copy(heavy); weightOf(c) != 501+2*20 {
		t.Errorf("%v", c)
	}
	heavy.kids[0].own = make([]int, part)
	if c := shape().Copy(heavy); weightOf(c) != 501 {
		t.Errorf("%v", c)
	}
	// Nothing comes behind what was left out.
	heavy.kids = []bush{{own: make([]int, part-1), kids: heavy.kids}, {}}
	if c := shape().Copy(heavy); len(c.kids) != 1 || len(c.kids[0].kids) != 0 {
		t.Errorf("%v", c)
	}
}

func TestCopiesOfManyTrees(t *testing.T) {
	// What has an end is whole, whatever else is taken.
	all, _ := copiesOf(deep(700), round(1, 1), doubled(100), deep(whole/2))
	for i, want := range []int{701, part + 1, part + 1, whole/2 + 1} {
		if weight := weightOf(all[i]); weight != want {
			t.Errorf("number %d: %d, want %d", i, weight, want)
		}
	}
	// If there is no room for all, all are copied in part.
	all, taken := copiesOf(deep(whole/2), deep(20), deep(whole/2))
	if taken != 3 {
		t.Errorf("%d", taken)
	}
	for i, want := range []int{part + 1, 21, part + 1} {
		if weight := weightOf(all[i]); weight != want {
			t.Errorf("number %d: %d, want %d", i, weight, want)
		}
	}
	// Parts, too, need room.
	many := slices.Repeat([]bush{round(1, 2)}, whole)
	if all, taken := copiesOf(many...); taken != whole/(part+1) || len(all) != taken {
		t.Errorf("%d, %d", taken, len(all))
	}
	if all, taken := copiesOf(make([]bush, whole+1)...); taken != whole || len(all) != taken {
		t.Errorf("%d, %d", taken, len(all))
	}
}

func TestP2WhatReadsTheSameIsCopiedTheSame(t *testing.T) {
	for wide := 1; wide <= 3; wide++ {
		want := shape().Copy(round(1, wide))
		for lists := 2; lists <= 5; lists++ {
			if c := shape().Copy(round(lists, wide)); !reflect.DeepEqual(c, want) {
				t.Errorf("%d lists of %d: another copy", lists, wide)
			}
		}
	}
	// As one list a level, and as many.
	for _, levels := range []int{12, 13} {
		b := doubled(levels)
		own := shape()
		own.Whole = 1 << 20
		if !reflect.DeepEqual(shape().Copy(b), shape().Copy(own.Copy(b))) {
			t.Errorf("%d levels: another copy", levels)
		}
	}
}

// namesIn are the names of the nodes that are gone through.
func namesIn(b bush, most int) []string {
	var names []string
	for n := range Once(&b, func(n *bush) []bush { return n.kids }) {
		names = append(names, n.name)
		if len(names) == most {
			break
		}
	}
	return names
}

func TestOnce(t *testing.T) {
	twigs := []bush{{name: "x"}, {name: "y", kids: []bush{{name: "z"}}}}
	b := bush{name: "a", kids: []bush{{name: "b", kids: twigs}, {name: "c"}, {name: "d", kids: twigs}}}
	want := []string{"a", "b", "x", "y", "z", "c", "d", "x", "y"}
	for most := 1; most <= len(want); most++ {
		if got := namesIn(b, most); !slices.Equal(got, want[:most]) {
			t.Errorf("at most %d: %q", most, got)
		}
	}
	if got := namesIn(bush{name: "a"}, 9); !slices.Equal(got, []string{"a"}) {
		t.Errorf("%q", got)
	}
}

func TestP1OnceComesToAnEnd(t *testing.T) {
	for lists := 1; lists <= 4; lists++ {
		for wide := 1; wide <= 3; wide++ {
			b := round(lists, wide)
			names := namesIn(b, -1)
			if most := 2*lists*wide*wide + wide + 1; len(names) > most {
				t.Errorf("%d lists of %d: %d nodes", lists, wide, len(names))
			}
		}
	}
	if names := namesIn(doubled(1000), -1); len(names) > 4000 {
		t.Errorf("%d nodes", len(names))
	}
	if names := namesIn(deep(1000000), -1); len(names) != 1000001 {
		t.Errorf("%d nodes", len(names))
	}
}
