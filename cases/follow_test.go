package cases

import (
	"fmt"
	"math"
	"math/rand"
	"reflect"
	"slices"
	"testing"

	"statute/api"
	"statute/reason"
)

// isAbove tells whether one rule of a theory of rules and rulings must be above another, by the words of the promise.
func isAbove(t reason.Theory, l []Ruling, a, b int) bool {
	n := len(t.Rules)
	switch {
	case a < n:
		return slices.Contains(t.Over, [2]int{a, b})
	case b < n:
		return t.Rules[b].Head == -l[a-n].Head
	}
	upper, lower := l[a-n], l[b-n]
	return upper.Head == -lower.Head && (lower.Rank < upper.Rank || lower.Rank == upper.Rank && b < a)
}

// checkFollow holds a theory that must come against the promise, rule by rule and pair by pair.
func checkFollow(t *testing.T, from reason.Theory, l []Ruling) reason.Theory {
	t.Helper()
	was := fmt.Sprintf("%#v %#v", from, l)
	all, err := Follow(from, l)
	if err != nil || reason.Valid(all) != nil {
		t.Fatalf("%+v, %+v: %v", from, l, err)
	}
	if now := fmt.Sprintf("%#v %#v", from, l); now != was {
		t.Errorf("%s became %s", was, now)
	}
	rules := slices.Clone(from.Rules)
	for _, r := range l {
		rules = append(rules, reason.Rule{Kind: api.Defeasible, Head: r.Head, Body: r.Body})
	}
	if all.Names != from.Names || fmt.Sprint(all.Rules) != fmt.Sprint(rules) {
		t.Errorf("%+v, %+v: %+v", from, l, all)
	}
	for a := range rules {
		for b := range rules {
			if got := slices.Contains(all.Over, [2]int{a, b}); got != isAbove(from, l, a, b) {
				t.Errorf("%+v, %+v: %d above %d: %v", from, l, a, b, got)
			}
		}
	}
	return all
}

func checkNoFollow(t *testing.T, from reason.Theory, l []Ruling, want error) {
	t.Helper()
	all, err := Follow(from, l)
	if err != want || !reflect.DeepEqual(all, reason.Theory{}) {
		t.Errorf("%+v, %d rulings: %+v, %v; want %v", from, len(l), all, err, want)
	}
}

// small is a theory in which all kinds of rules are against each other.
func small() reason.Theory {
	return reason.Theory{Names: 2, Rules: []reason.Rule{
		{Kind: api.Strict, Head: 2},
		{Kind: api.Defeasible, Head: 1, Body: []int{2}},
		{Kind: api.Defeater, Head: -1},
		{Kind: api.Defeasible, Head: -2},
	}, Over: [][2]int{{1, 2}, {3, 0}}}
}

func TestP152NoRulings(t *testing.T) {
	checkFollow(t, small(), nil)
	checkFollow(t, small(), []Ruling{})
	checkFollow(t, reason.Theory{}, nil)
}

func TestP152RulingsAreAboveTheLaw(t *testing.T) {
	for _, head := range []int{1, -1, 2, -2} {
		checkFollow(t, small(), []Ruling{{Head: head}})
		checkFollow(t, small(), []Ruling{{Head: head, Body: []int{1, -2, 1}, Rank: math.MinInt}})
	}
}

func TestP152RulingsAreAboveRulings(t *testing.T) {
	ranks := []int{math.MinInt, -1, 0, 1, math.MaxInt}
	for _, a := range ranks {
		for _, b := range ranks {
			for _, head := range []int{1, -1, 2} {
				checkFollow(t, small(), []Ruling{{Head: 1, Rank: a}, {Head: head, Rank: b}})
				checkFollow(t, small(), []Ruling{{Head: head, Rank: a}, {Head: 1, Rank: b}, {Head: -1, Rank: a}})
			}
		}
	}
}

func TestP152WhatFollows(t *testing.T) {
	law := reason.Theory{Names: 2, Rules: []reason.Rule{{Kind: api.Defeasible, Head: 1}, {Kind: api.Defeasible, Head: -1, Body: []int{2}}}}
	for _, c := range []struct {
		l    []Ruling
		want int
	}{
		{nil, api.Yes},
		{[]Ruling{{Head: -1}}, api.No},
		{[]Ruling{{Head: -1}, {Head: 1}}, api.Yes},
		{[]Ruling{{Head: -1, Rank: 1}, {Head: 1}}, api.No},
		{[]Ruling{{Head: -1, Rank: 1}, {Head: 1}, {Head: 1, Rank: 1}}, api.Yes},
		{[]Ruling{{Head: -1, Body: []int{2}, Rank: 1}}, api.Yes},
		{[]Ruling{{Head: -1, Body: []int{-2}, Rank: 1}}, api.Yes},
	} {
		known, err := reason.Solve(checkFollow(t, law, c.l))
		if err != nil || known.Holds[0] != c.want {
			t.Errorf("%+v: %+v, %v", c.l, known, err)
		}
	}
}

func TestP152RulingsByChance(t *testing.T) {
	r := rand.New(rand.NewSource(152))
	literal := func(names int) int { return (1 + r.Intn(names)) * (1 - 2*r.Intn(2)) }
	body := func(names int) []int {
		var list []int
		for range r.Intn(3) {
			list = append(list, literal(names))
		}
		return list
	}
	for range 2000 {
		from := reason.Theory{Names: 1 + r.Intn(3)}
		for range r.Intn(6) {
			from.Rules = append(from.Rules, reason.Rule{Kind: r.Intn(3), Head: literal(from.Names), Body: body(from.Names)})
		}
		for a := range from.Rules {
			for b := range a {
				if r.Intn(3) == 0 {
					from.Over = append(from.Over, [2]int{a, b})
				}
			}
		}
		var l []Ruling
		for range r.Intn(7) {
			l = append(l, Ruling{Head: literal(from.Names), Body: body(from.Names), Rank: r.Intn(3)})
		}
		checkFollow(t, from, l)
	}
}

func TestP152ErrorsOfTheTheory(t *testing.T) {
	names, kind, literal, order := small(), small(), small(), small()
	names.Names = -1
	kind.Rules[0].Kind = 9
	literal.Rules[1].Body[0] = 3
	order.Over = append(order.Over, [2]int{2, 1})
	tooMany := make([]Ruling, api.MaxRules+1)
	for _, l := range [][]Ruling{nil, {{Head: 1}}, {{Head: 9}}, tooMany} {
		checkNoFollow(t, names, l, api.ErrBound)
		checkNoFollow(t, kind, l, api.ErrKind)
		checkNoFollow(t, literal, l, api.ErrName)
		checkNoFollow(t, order, l, api.ErrOrder)
	}
}

func TestP152ErrorsOfWhatComes(t *testing.T) {
	long := make([]int, api.MaxNames+1)
	for i := range long {
		long[i] = 1
	}
	for _, head := range []int{0, 3, -3, math.MinInt, math.MaxInt} {
		checkNoFollow(t, small(), []Ruling{{Head: head}}, api.ErrName)
		checkNoFollow(t, small(), []Ruling{{Head: 1, Body: []int{1, head}}}, api.ErrName)
		checkNoFollow(t, small(), []Ruling{{Head: head, Body: long}}, api.ErrBound)
		// A number that is no literal is against nothing, so there are not too many pairs.
		checkNoFollow(t, small(), slices.Repeat([]Ruling{{Head: head}}, api.MaxRules-4), api.ErrName)
	}
	checkNoFollow(t, small(), []Ruling{{Head: 1, Body: long}}, api.ErrBound)
	checkFollow(t, small(), []Ruling{{Head: 1, Body: long[1:]}})
}

func TestP152Bounds(t *testing.T) {
	law := small()
	many := slices.Repeat([]Ruling{{Head: 1}}, api.MaxRules)
	checkFollow(t, law, many[:api.MaxRules-4])
	checkNoFollow(t, law, many[:api.MaxRules-3], api.ErrBound)
	checkFollow(t, reason.Theory{Names: 1}, many)
	checkNoFollow(t, reason.Theory{Names: 1}, append(many, Ruling{Head: 1}), api.ErrBound)
	checkNoFollow(t, reason.Theory{Names: 1}, slices.Repeat([]Ruling{{Head: 1}, {Head: -1}}, 100000), api.ErrBound)

	// 30 against 40 are 1200 pairs.
	pairs := slices.Concat(slices.Repeat([]Ruling{{Head: 1}}, 30), slices.Repeat([]Ruling{{Head: -1}}, 40))
	if all := checkFollow(t, reason.Theory{Names: 1}, pairs); len(all.Over) != 10*api.MaxRules {
		t.Error(len(all.Over))
	}
	checkNoFollow(t, reason.Theory{Names: 1}, append(pairs, Ruling{Head: 1}), api.ErrBound)
	one := []reason.Rule{{Kind: api.Defeasible, Head: -1}}
	checkNoFollow(t, reason.Theory{Names: 1, Rules: one}, pairs, api.ErrBound)
	checkFollow(t, reason.Theory{Names: 1, Rules: one}, pairs[:69])
}

// spoil all lists of a theory.
func spoil(t reason.Theory) {
	for i, r := range t.Rules {
		for j := range r.Body {
			r.Body[j] = 99
		}
		_ = append(r.Body, 99)
		t.Rules[i].Head = 99
	}
	for i := range t.Over {
		t.Over[i] = [2]int{99, 99}
	}
}

func TestP4NothingOfWhatFollowsIsShared(t *testing.T) {
	for _, l := range [][]Ruling{nil, {{Head: 1, Body: []int{2, -2}}, {Head: -1, Body: []int{2}}}} {
		law := small()
		// Lists with room behind them: nothing may be written there.
		law.Over, law.Rules = append(law.Over, make([][2]int, 9)...)[:2], append(law.Rules, make([]reason.Rule, 9)...)[:4]
		tellGiven := func() string { return fmt.Sprintf("%#v %#v %v %v", law, l, law.Over[:11], law.Rules[:13]) }
		was := tellGiven()
		all, err := Follow(law, l)
		if err != nil {
			t.Fatal(err)
		}
		spoil(all)
		if now := tellGiven(); now != was {
			t.Errorf("%s became %s", was, now)
		}
		all, _ = Follow(law, l)
		was = fmt.Sprint(all)
		spoil(law)
		for i := range l {
			l[i].Body[0], l[i].Head = 99, 99
		}
		if now := fmt.Sprint(all); now != was {
			t.Errorf("%s became %s", was, now)
		}
	}
}
