package terms

import (
	"math/rand"
	"reflect"
	"strconv"
	"testing"

	"statute/api"
)

// tangle is a law some of whose definitions mean themselves.
const tangle = `law
| define a: b or c
| define b: c and q
| define c: some child (d)
| define d: q < c
| define u: v and a
| define v: not w
| define w: q or u
| define x: u
1
  | define d: a
  | define c: b
  | define w: d
2
  | define q: x and q
  | define a: q
`

// someCondition of the tangle's names.
func someCondition(r *rand.Rand, deep int) Node {
	if deep == 0 || r.Intn(3) == 0 {
		return named([]string{"a", "b", "c", "d", "q", "u", "v", "w", "x"}[r.Intn(9)])
	}
	switch r.Intn(3) {
	case 0:
		return node("not", someCondition(r, deep-1))
	case 1:
		return of1("some", "child", someCondition(r, deep-1))
	}
	return node("and", someCondition(r, deep-1), someCondition(r, deep-1))
}

func TestP63OneScopeForManyConditions(t *testing.T) {
	placed := placedOf(t, tangle)
	r := rand.New(rand.NewSource(63))
	right, wrong := 0, 0
	for range 300 {
		scope := ScopeOf(placed)
		for range 20 {
			path := []string{"", "1", "1/a", "2", "3"}[r.Intn(5)]
			n := someCondition(r, 2)
			want, wantErr := Opened(placed, path, n)
			got, err := scope.Opened(path, n)
			if err != wantErr || !reflect.DeepEqual(got, want) {
				t.Fatalf("%+v at %q: %+v, %v; alone %+v, %v", n, path, got, err, want, wantErr)
			}
			if err == nil {
				right++
			} else {
				wrong++
			}
		}
	}
	if right < 100 || wrong < 100 {
		t.Errorf("%d could be opened, %d could not", right, wrong)
	}
}

func TestP63EachConditionHasAllTheRoom(t *testing.T) {
	placed := doubles(t, 12)
	scope := ScopeOf(placed)
	for range 3 {
		for _, c := range []struct {
			n    Node
			want error
		}{
			{node("not", chainOf(1000, "a")), nil},
			{chainOf(1001, "a"), api.ErrBound},
			{named("d8"), nil},
			{named("d9"), api.ErrBound},
			{node("and", named("u"), named("d9")), api.ErrOrder},
			{named("v"), api.ErrOrder},
		} {
			if n, err := scope.Opened("", c.n); err != c.want || err != nil && !reflect.DeepEqual(n, Node{}) {
				t.Errorf("%d nodes: %v; want %v", sizeOf(c.n), err, c.want)
			}
		}
	}
}

// A definition may have any name that is handed over: also none.
func TestP63AnEmptyNameThatMeansItself(t *testing.T) {
	placed := []Placed{{Sentence: Sentence{Kind: "define", If: node("not", named(""))}}}
	scope := ScopeOf(placed)
	for _, n := range []Node{named("a"), named(""), named("a"), named("")} {
		_, err := scope.Opened("", n)
		if _, want := Opened(placed, "", n); err != want {
			t.Errorf("%q: %v; want %v", n.Word, err, want)
		}
	}
}

func TestP4WhatIsOpenedIsNewMemory(t *testing.T) {
	placed := placedOf(t, "law\n| define a: b and c\n| define d: not a\n")
	scope := ScopeOf(placed)
	for range 2 {
		n, err := scope.Opened("", node("or", named("a"), named("d")))
		if err != nil || n.Kids[0].Kids[0].Word != "b" || n.Kids[1].Kids[0].Kids[0].Word != "b" {
			t.Fatalf("%+v, %v", n, err)
		}
		n.Kids[0].Kids[0].Word = "z"
		if n.Kids[1].Kids[0].Kids[0].Word != "b" {
			t.Error("two lists are one")
		}
	}
}

func TestP1LongWaysByManyNames(t *testing.T) {
	var placed []Placed
	count := 100000
	for i := range count {
		placed = append(placed, Placed{Line: i, Sentence: Sentence{Kind: "define", Name: "d" + strconv.Itoa(i), If: named("d" + strconv.Itoa(i+1))}})
	}
	scope := ScopeOf(placed)
	for i := range 100 {
		n, err := scope.Opened("1/a", chainOf(1000, "d"+strconv.Itoa(i)))
		if err != nil || n.Kids[1].Word != "d"+strconv.Itoa(count) {
			t.Fatalf("%v", err)
		}
	}
}
