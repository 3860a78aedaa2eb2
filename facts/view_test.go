package facts

import (
	"errors"
	"math/rand"
	"testing"

	"statute/api"
	"statute/terms"
)

func TestP73OneViewForManyQuestions(t *testing.T) {
	r := rand.New(rand.NewSource(73))
	for range 100 {
		f := someFile(t, r, 4, 6)
		on, known := 1+r.Intn(6), 1+r.Intn(6)
		v := f.View(on, known)
		for range 30 {
			who := r.Intn(4)
			n, m := someNode(r, false, 3), someNode(r, true, 3)
			holds, err := f.Holds(n, who, on, known)
			if got, gotErr := v.Holds(n, who); got != holds || gotErr != err {
				t.Fatalf("%+v: %v, %v; want %v, %v", n, got, gotErr, holds, err)
			}
			sum, err := f.Sum(m, who, on, known)
			if got, gotErr := v.Sum(m, who); got != sum || gotErr != err {
				t.Fatalf("%+v: %d, %v; want %d, %v", m, got, gotErr, sum, err)
			}
			if value, _ := f.Value(who, "a", on, known); v.Value(who, "a") != value {
				t.Fatalf("%d; want %d", v.Value(who, "a"), value)
			}
		}
	}
}

func TestP101SumsByAWayAndByWhatNamesAreWorth(t *testing.T) {
	v := family(t).View(10, 10)
	worth := func(name string) (int, error) {
		if name == "age" {
			return 7, nil
		}
		return v.Value(0, name), nil
	}
	for _, c := range []struct {
		text string
		way  int
		want int
	}{
		{"age", api.Down, 7}, {"age + debt", api.Down, -2543}, {"debt", api.Up, -2550}, {"none", api.Up, 0},
		{"age * 50%", api.Down, 3}, {"age * 50%", api.Up, 4}, {"age * 50%", api.HalfEven, 4}, {"0.05 * 50%", api.HalfEven, 2}, {"0.05 * 50%", api.HalfUp, 3},
		{"debt * 1%", api.Floor, -26}, {"debt * 1%", api.Ceil, -25}, {"age * 50% * 50%", api.Up, 2}, {"age * 50% * 50%", api.Down, 1},
		{"total age of child", api.Down, 2500}, {"max(age, 0.08) - min(age, 1)", api.Down, 1}, {"count child * 0.01%", api.Ceil, 1},
	} {
		if got, err := v.SumBy(sumOf(t, c.text), 0, c.way, worth); got != c.want || err != nil {
			t.Errorf("%s by %d: %d, %v; want %d", c.text, c.way, got, err, c.want)
		}
	}
}

func TestP101WhatANameIsWorthMayBeAnError(t *testing.T) {
	v := family(t).View(10, 10)
	bad := errors.New("bad")
	worth := func(name string) (int, error) {
		switch name {
		case "bad":
			return 0, bad
		case "great":
			return api.MaxCoin + 1, nil
		}
		return 1, nil
	}
	for text, want := range map[string]error{
		"bad": bad, "age + bad": bad, "max(age, bad * 50%)": bad, "great": api.ErrCoin, "great + bad": api.ErrCoin, "bad + great": bad,
		"10000000000 + 1 + bad": api.ErrCoin, "bad + [10000000000 + 1]": bad, "total bad of bad": nil, "count bad": nil,
	} {
		if got, err := v.SumBy(sumOf(t, text), 0, api.HalfUp, worth); err != want || err != nil && got != 0 {
			t.Errorf("%s: %d, %v; want %v", text, got, err, want)
		}
	}
	if got, err := v.SumBy(sumOf(t, "age * 50%"), 0, api.HalfEven+1, worth); got != 0 || err != api.ErrKind {
		t.Errorf("no such way: %d, %v", got, err)
	}
	if got, err := v.SumBy(terms.Node{Kind: "name", Word: "age"}, api.MaxPeople, api.HalfUp, worth); got != 0 || err != api.ErrKind {
		t.Errorf("nobody: %d, %v", got, err)
	}
}
