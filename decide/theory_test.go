package decide

import (
	"fmt"
	"math"
	"strconv"
	"strings"
	"testing"

	"statute/api"
	"statute/facts"
	"statute/reason"
	"statute/script"
)

// lawOf a form without its first line, `law`.
func lawOf(t *testing.T, text string) api.Item {
	t.Helper()
	l, err := script.Read("law\n" + text)
	if err != nil {
		t.Fatalf("%s: %v", text, err)
	}
	return l
}

// is a fact of somebody, for ever.
func is(who int, name string, value int) facts.Fact {
	return facts.Fact{Who: who, Name: name, Other: -1, Value: value, From: 1, Learnt: 1}
}

// stands is a fact of two, for ever.
func stands(who int, name string, other int) facts.Fact {
	return facts.Fact{Who: who, Name: name, Other: other, Value: 1, From: 1, Learnt: 1}
}

func fileOf(t *testing.T, list ...facts.Fact) *facts.File {
	t.Helper()
	f := facts.New()
	for _, x := range list {
		if err := f.Add(x); err != nil {
			t.Fatalf("%+v: %v", x, err)
		}
	}
	return f
}

// usual is a case of the person 0.
var usual = Case{Who: 0, On: 5, Known: 5}

// theoryText tells a theory, its names and the numbers of its sentences.
func theoryText(l api.Item, f *facts.File, c Case) string {
	th, names, from, err := Theory(l, f, c)
	if err != nil {
		if names != nil || from != nil || th.Names != 0 || th.Rules != nil || th.Over != nil {
			return "something beside an error"
		}
		return err.Error()
	}
	if th.Names != len(names) {
		return "another number of names"
	}
	return fmt.Sprint(names, from, th.Rules, th.Over)
}

// theories are laws, and what their theories are told as, of somebody with a, b (and not c).
type theories []struct{ text, want string }

func (list theories) check(t *testing.T) {
	t.Helper()
	f := fileOf(t, is(0, "a", 1), is(0, "b", -300), is(0, "c", 0), is(1, "c", 1), stands(0, "child", 1), is(0, "age", 1800))
	for _, c := range list {
		if got := theoryText(lawOf(t, c.text), f, usual); got != c.want {
			t.Errorf("%s\n%s; want %s", c.text, got, c.want)
		}
	}
}

func TestP100NamesAndRules(t *testing.T) {
	theories{
		{"", "[] [] [] []"},
		{"| a line\n| define a: b\n| amount x: 5 if y\n| duty d: z within 5 days\n", "[] [] [] []"},
		{"| rule r: p\n", "[p] [0] [{1 1 []}] []"},
		{"| rule r: not p\n", "[p] [0] [{1 -1 []}] []"},
		{"| rule r strict: p\n| rule s defeater: not p\n", "[p] [0 1] [{0 1 []} {2 -1 []}] []"},
		// Each once, rising; also of rules that are not in the theory; not those of conditions, or of the rules themselves.
		{"| rule r: q\n| rule s: not p\n| rule t: q if c\n| rule u: m if c\n| rule v: p9\n| rule w: p_\n| rule x: p10 if k\n", "[m p p10 p9 p_ q] [0 1 4 5] [{1 6 []} {1 -2 []} {1 4 []} {1 5 []}] []"},
		// The law's first, each provision ahead of its kids; what can't be read is not counted.
		{"| rule r\n| rule r1: p\n1\n  | rule r2: p\n  | rule : p\n  a\n    | amount x: 5\n    | rule r3: p\n2\n  | define q: a\n  | rule r4: p\n", "[p] [0 1 3 5] [{1 1 []} {1 1 []} {1 1 []} {1 1 []}] []"},
	}.check(t)
}

func TestP100Bodies(t *testing.T) {
	theories{
		{"| rule r: p if q\n| rule s: q if not p\n", "[p q] [0 1] [{1 1 [2]} {1 2 [-1]}] []"},
		{"| rule r: p if p and not p and p\n", "[p] [0] [{1 1 [1 -1 1]}] []"},
		{"| rule r: p if q and a and not r and b and p\n| rule s: q\n| rule t: r\n", "[p q r] [0 1 2] [{1 1 [2 -3 1]} {1 2 []} {1 3 []}] []"},
		{"| rule r: p if q and (not p and (a and q)) and b\n| rule s: q\n", "[p q] [0 1] [{1 1 [2 -1 2]} {1 2 []}] []"},
		// Definitions are put in first: also what they say is parted, and a name that is defined is none of the theory there.
		{"| define d: q and a and not e\n| define e: p\n| rule r: p if d\n| rule s: q if not e\n", "[p q] [2 3] [{1 1 [2 -1]} {1 2 [-1]}] []"},
		{"| define q: a\n| rule r: p if q\n| rule s: q if c\n", "[p q] [1] [{1 1 []}] []"},
		{"| rule s: q if c\n1\n  | define q: a\n  | rule r: p if q\n2\n  | rule r: p if q\n", "[p q] [2 3] [{1 1 []} {1 1 [2]}] []"},
		{"| define d: a\n| define e: d\n1\n  | define d: c\n  | rule r: p if d\n  | rule s: p if e\n  | rule t: p if not d\n", "[p] [4 5] [{1 1 []} {1 1 []}] []"},
	}.check(t)
}

func TestP100WhatTheFileIsAskedFor(t *testing.T) {
	for condition, in := range map[string]bool{
		"a": true, "b": true, "c": false, "none": false, "not a": false, "not c": true, "a and c": false, "c and a": false, "a and b": true, "a or c": true,
		"age >= 18": true, "age > 18": false, "some child (c)": true, "every child (a)": false, "not (a and c)": true,
		// Names of the theory, where they are no literals, are looked up like others.
		"q or c": false, "q or a": true, "not not q": false, "not not not q": true, "not (q and q)": true, "some child (q)": false, "every child (q)": false, "every child (not q)": true, "q > 0": false, "q = 0": true,
	} {
		text := "| rule r: p if " + condition + "\n| rule s: q if c\n"
		want := "[p q] [] [] []"
		if in {
			want = "[p q] [0] [{1 1 []}] []"
		}
		theories{{text, want}}.check(t)
	}
	theories{{"| rule r: a if a or c\n| rule s: c if c = 0 and a\n", "[a c] [0 1] [{1 1 []} {1 2 [1]}] []"}}.check(t)
}

func TestP100OnADayAsKnownOnADay(t *testing.T) {
	l := lawOf(t, "| rule r: p if a\n")
	f := fileOf(t, facts.Fact{Who: 3, Name: "a", Other: -1, Value: 1, From: 10, To: 20, Learnt: 15})
	for c, in := range map[Case]bool{
		{3, 10, 15}: true, {3, 19, 15}: true, {3, 20, 15}: false, {3, 9, 15}: false, {3, 10, 14}: false, {3, 10, api.MaxDay}: true, {2, 10, 15}: false,
	} {
		want := "[p] [] [] []"
		if in {
			want = "[p] [0] [{1 1 []}] []"
		}
		if got := theoryText(l, f, c); got != want {
			t.Errorf("%v: %s", c, got)
		}
	}
}

func TestP100Over(t *testing.T) {
	theories{
		{"| rule r: p\n| rule s: q; over r\n", "[p q] [0 1] [{1 1 []} {1 2 []}] [[1 0]]"},
		{"| rule r: p; over t, s; over none; over s\n| rule s: q\n| rule t: q\n", "[p q] [0 1 2] [{1 1 []} {1 2 []} {1 2 []}] [[0 1] [0 2]]"},
		// Two rules may have one name.
		{"| rule r: p\n| rule s: q; over r\n1\n  | rule r: q\n  | rule s: p\n  | rule s: q; over r\n", "[p q] [0 1 2 3 4] [{1 1 []} {1 2 []} {1 2 []} {1 1 []} {1 2 []}] [[1 0] [1 2] [4 0] [4 2]]"},
		// Those that are not in the theory are above nothing, and nothing is above them.
		{"| rule r: p if c\n| rule s: q; over r, t\n| rule t: q\n| rule u: p if c; over s\n", "[p q] [1 2] [{1 2 []} {1 2 []}] [[0 1]]"},
		{"| rule r: p; over x\n| define x: a\n| amount y: 5\n| rule z: p; over y, p\n", "[p] [0 3] [{1 1 []} {1 1 []}] []"},
		{"| rule r: p; over r\n", api.ErrOrder.Error()},
		{"| rule r: p\n| rule r: q; over r\n", api.ErrOrder.Error()},
		{"| rule r: p if c; over r\n", "[p] [] [] []"},
		{"| rule r: p; over s\n| rule s: p; over t\n| rule t: p; over r\n", api.ErrOrder.Error()},
		{"| rule r: p; over s\n| rule s: p if c; over t\n| rule t: p; over r\n", "[p] [0 2] [{1 1 []} {1 1 []}] [[1 0]]"},
	}.check(t)
}

func TestP100Deeper(t *testing.T) {
	for text, want := range map[string]string{
		// One whose provision lies in the other's; not in the same, nor beside it.
		"| rule r: p\n1\n  | rule s: not p\n":                                                     "[[1 0]]",
		"| rule r: not p\n1\n  | rule s: p\n":                                                     "[[1 0]]",
		"| rule r: p\n1\n  a\n    | rule s: not p\n":                                              "[[1 0]]",
		"1\n  | rule r: p\n  a\n    | rule s: not p\n    i\n      | rule t: p\n":                  "[[1 0] [2 1]]",
		"| rule r: p\n| rule s: not p\n":                                                          "[]",
		"1\n  | rule r: p\n  | rule s: not p\n2\n  | rule t: not p\n":                             "[]",
		"1\n  | rule r: p\n10\n  | rule s: not p\n1A\n  a\n    | rule t: not p\n":                 "[]",
		"1\n  | rule r: p\n2\n  1\n    | rule s: not p\n":                                         "[]",
		"1\n  a\n    | rule r: p\n  b\n    i\n      | rule s: not p\n":                            "[]",
		"| rule r: p\n1\n  | rule s: p\n  | rule t: not q\n2\n  | rule u: q\n":                    "[]",
		"| rule r: p if c\n1\n  | rule s: not p\n":                                                "[]",
		"| rule r: p\n| rule s: p\n1\n  | rule t: not p\n2\n  | rule u: not p\n  | rule v: not p": "[[2 0] [2 1] [3 0] [3 1] [4 0] [4 1]]",
		// Both are defeasible.
		"| rule r strict: p\n1\n  | rule s: not p\n":            "[]",
		"| rule r: p\n1\n  | rule s strict: not p\n":            "[]",
		"| rule r defeater: p\n1\n  | rule s: not p\n":          "[]",
		"| rule r: p\n1\n  | rule s defeater: not p\n":          "[]",
		"| rule r strict: p\n1\n  | rule s strict: not p\n":     "[]",
		"| rule r strict: p; over s\n1\n  | rule s: not p\n":    "[[0 1]]",
		"| rule r: p\n1\n  | rule s defeater: not p; over r\n ": "[[1 0]]",
		// Neither is above the other by `over`, by way of others or not.
		"| rule r: p; over s\n1\n  | rule s: not p\n":                                         "[[0 1]]",
		"| rule r: p\n1\n  | rule s: not p; over r\n":                                         "[[1 0]]",
		"| rule r: p; over x\n| rule x: q; over s\n1\n  | rule s: not p\n":                    "[[0 1] [1 2]]",
		"| rule r: p\n| rule x: q; over r\n1\n  | rule s: not p; over x\n":                    "[[1 0] [2 1]]",
		"| rule r: p; over x\n| rule x: q; over y\n| rule y: q; over s\n1\n  | rule s: not p": "[[0 1] [1 2] [2 3]]",
		// A rule that is not in the theory is no way.
		"| rule r: p; over x\n| rule x: q if c; over s\n1\n  | rule s: not p\n": "[[1 0]]",
		// Only `over` counts there: who is above by being deeper is no way.
		"| rule r: p; over w\n| rule v: q\n1\n  | rule w: not q\n2\n  | rule s: not p; over v\n": "[[0 2] [2 1] [3 0] [3 1]]",
	} {
		th, _, _, err := Theory(lawOf(t, text), fileOf(t, is(0, "a", 1)), usual)
		if got := fmt.Sprint(th.Over); got != want || err != nil {
			t.Errorf("%s\n%s, %v; want %s", text, got, err, want)
		}
	}
	// All of it together may lead back: w is above v, v (by over) above s, s above r, r (by over) above w.
	round := "| rule r: p; over w\n| rule v: q; over s\n1\n  | rule w: not q\n2\n  | rule s: not p\n"
	if got := theoryText(lawOf(t, round), nil, usual); got != api.ErrOrder.Error() {
		t.Error(got)
	}
}

func TestP100Errors(t *testing.T) {
	const (
		great = "9999999999 + 9999999999 > 1"
		self  = "| define u: v\n| define v: u\n"
		wide  = "| define d0: a and a\n| define d1: d0 and d0 and d0 and d0\n| define d2: d1 and d1 and d1 and d1\n| define d3: d2 and d2 and d2 and d2\n| define d4: d3 and d3 and d3 and d3\n| define d5: d4 and d4 and d4 and d4\n"
	)
	for _, c := range []struct {
		text string
		c    Case
		want error
	}{
		{"", Case{-1, 5, 5}, api.ErrKind}, {"", Case{api.MaxPeople, 5, 5}, api.ErrKind}, {"", Case{math.MinInt, 5, 5}, api.ErrKind},
		{"", Case{-1, 0, 0}, api.ErrKind},
		{"", Case{0, 0, 5}, api.ErrDay}, {"", Case{0, 5, 0}, api.ErrDay}, {"", Case{0, -1, 5}, api.ErrDay}, {"", Case{0, api.MaxDay + 1, 5}, api.ErrDay}, {"", Case{0, 5, api.MaxDay + 1}, api.ErrDay},
		{"", Case{api.MaxPeople - 1, api.MaxDay, 1}, nil},
		{"| rule r: p if " + great + "\n", Case{-1, 5, 5}, api.ErrKind}, {"| rule r: p if " + great + "\n", Case{0, 0, 5}, api.ErrDay},
		{"| rule r: p if " + great + "\n", usual, api.ErrCoin},
		{self + "| rule r: p if u\n", usual, api.ErrOrder},
		{wide + "| rule r: p if d5\n", usual, api.ErrBound},
		{self + wide + "| amount x: 5 if u\n| amount y: " + "9999999999 + 9999999999 if d5\n", usual, nil},
		// All parts are looked at, though one does not hold, or one is a literal.
		{"| rule r: p if c and " + great + "\n", usual, api.ErrCoin}, {"| rule r: p if p and not p and (" + great + ")\n", usual, api.ErrCoin},
		// The first sentence's; of one Opened's ahead of the file's; reason's at last.
		{self + "| rule r: p if " + great + "\n| rule s: p if u\n", usual, api.ErrCoin},
		{self + "| rule s: p if u\n| rule r: p if " + great + "\n", usual, api.ErrOrder},
		{self + "| rule r: p if " + great + " and u\n", usual, api.ErrOrder},
		{wide + "| rule r: p if " + great + " and d5\n", usual, api.ErrBound},
		{"| rule r: p; over r\n| rule s: p if " + great + "\n", usual, api.ErrCoin},
		{wide + "| rule r: p; over r\n| rule s: p if d5\n", usual, api.ErrBound},
		{"| rule r: p; over r\n| rule s: p\n", usual, api.ErrOrder},
	} {
		want := "<nil>"
		if c.want != nil {
			want = c.want.Error()
		}
		_, _, _, err := Theory(lawOf(t, c.text), nil, c.c)
		if err != c.want {
			t.Errorf("%s, %v: %v; want %s", c.text, c.c, err, want)
		}
		if got := theoryText(lawOf(t, c.text), nil, c.c); err != nil && got != want {
			t.Errorf("%s, %v: %s", c.text, c.c, got)
		}
	}
}

// many is a law of one provision with so many lines, which write tells by their numbers.
func many(n int, write func(i int) string) api.Item {
	var l api.Item
	for i := range n {
		l.Lines = append(l.Lines, write(i))
	}
	return l
}

func TestP100Bounds(t *testing.T) {
	named := func(i int) string { return "rule r" + strconv.Itoa(i) + ": p" + strconv.Itoa(i) }
	plain := func(i int) string { return "rule r: p" }
	for what, c := range map[string]struct {
		l    api.Item
		want error
	}{
		"120 rules, 120 names":                  {many(api.MaxRules, named), nil},
		"121 rules":                             {many(api.MaxRules+1, plain), api.ErrBound},
		"121 rules, of which one is not in it":  {many(api.MaxRules+1, func(i int) string { return plain(i) + map[bool]string{true: " if c"}[i == 7] }), nil},
		"121 names of rules that are not in it": {many(api.MaxNames+1, func(i int) string { return named(i) + " if c" }), api.ErrBound},
		"120 names of rules that are not in it": {many(api.MaxNames, func(i int) string { return named(i) + " if c" }), nil},
		"as many pairs as there may be": {many(70, func(i int) string {
			return map[bool]string{true: "rule s: p", false: "rule r: p; over s"}[i >= 40]
		}), nil},
		"more pairs": {many(71, func(i int) string {
			return map[bool]string{true: "rule s: p", false: "rule r: p; over s"}[i >= 40]
		}), api.ErrBound},
		"too many pairs ahead of a rule above itself": {many(71, func(i int) string {
			return map[bool]string{true: "rule s: p; over s", false: "rule r: p; over s"}[i >= 40]
		}), api.ErrBound},
		"a wrong sentence behind too many rules": {many(api.MaxRules+2, func(i int) string {
			return plain(i) + map[bool]string{true: " if 9999999999 + 9999999999 > 1"}[i > api.MaxRules]
		}), api.ErrCoin},
		"120 literals": {bodyOf(120), nil},
		"121 literals": {bodyOf(121), api.ErrBound},
	} {
		_, _, _, err := Theory(c.l, nil, usual)
		if err != c.want {
			t.Errorf("%s: %v; want %v", what, err, c.want)
		}
		if _, err := Decide(c.l, nil, usual); err != c.want {
			t.Errorf("%s, decided: %v; want %v", what, err, c.want)
		}
		if _, _, err := Why(c.l, nil, usual, "p", true); err != c.want {
			t.Errorf("%s, explained: %v; want %v", what, err, c.want)
		}
	}
}

// bodyOf is a law with a rule that has so many literals.
func bodyOf(n int) api.Item {
	tens := "define ten: p" + strings.Repeat(" and p", 9)
	rule := "rule r: p if ten" + strings.Repeat(" and ten", n/10-1) + strings.Repeat(" and p", n%10)
	return api.Item{Lines: []string{tens, rule}}
}

func TestP100ATheoryIsSolvedAsItIs(t *testing.T) {
	l := lawOf(t, "| rule r1: elig if old\n| rule r2: not elig if banned; over r1\n")
	th, names, _, err := Theory(l, fileOf(t, is(0, "old", 1), is(0, "banned", 1)), usual)
	if err != nil {
		t.Fatal(err)
	}
	k, err := reason.Solve(th)
	if got := fmt.Sprint(names, k.Holds); got != "[elig] [2 1]" || err != nil {
		t.Error(got, err)
	}
}
