package decide

import (
	"fmt"
	"slices"
	"strconv"
	"strings"
	"testing"

	"statute/api"
	"statute/facts"
	"statute/why"
)

// amountsText tells the amounts of a case, or its error.
func amountsText(l api.Item, f *facts.File, c Case) string {
	a, err := Decide(l, f, c)
	if err != nil {
		if a.Names != nil || a.Known.Holds != nil || a.Known.Sure != nil || a.Amounts != nil {
			return "something beside an error"
		}
		return err.Error()
	}
	return fmt.Sprint(a.Amounts)
}

// checkAmounts of laws, of somebody with a, an income of 99.99 and the kid 1, whose income is 10.
func checkAmounts(t *testing.T, list map[string]string) {
	t.Helper()
	f := fileOf(t, is(0, "a", 1), is(0, "income", 9999), is(1, "income", 1000), stands(0, "child", 1), is(0, "x", 77700), is(1, "x", 500))
	for text, want := range list {
		if got := amountsText(lawOf(t, text), f, usual); got != want {
			t.Errorf("%s\n%s; want %s", text, got, want)
		}
	}
}

func TestP101WhatFollows(t *testing.T) {
	l := lawOf(t, "| rule r: p if a\n| rule s strict: q\n| rule t: not p if b\n| rule u: m if m\n")
	a, err := Decide(l, fileOf(t, is(0, "a", 1)), usual)
	if got := fmt.Sprint(a.Names, a.Known.Holds, a.Known.Sure); got != "[m p q] [0 2 1 2 1 2] [2 2 2 2 1 2]" || err != nil || a.Amounts != nil {
		t.Error(got, a.Amounts, err)
	}
	if a, err := Decide(api.Item{}, nil, usual); err != nil || a.Names != nil || len(a.Known.Holds) > 0 || a.Amounts != nil {
		t.Error(a, err)
	}
}

func TestP101Amounts(t *testing.T) {
	checkAmounts(t, map[string]string{
		"": "[]",
		"| amount b: 5\n| amount c: 0.01\n| amount a: 0\n":                                                         "[{a 0} {b 500} {c 1}]",
		"| amount c: 5\n1\n  | amount c: 6\n  | amount c: 0 - 20\n  | amount\n":                                    "[{c -900}]",
		"| amount c: income - 100\n":                                                                               "[{c -1}]",
		"| amount c: count child + max(1, income) + total income of child + none\n":                                "[{c 11099}]",
		"| amount c: 5 if a\n| amount c: 7 if not a\n| amount d: 8 if none\n":                                      "[{c 500} {d 0}]",
		"| define k: a and income > 99.98\n1\n  | amount c: 5 if k\n  | define k: none\n2\n  | amount c: 6 if k\n": "[{c 600}]",
	})
}

func TestP101LiteralsOfAmounts(t *testing.T) {
	const rules = "| rule r: p if a\n| rule s: not q if a\n| rule u: m if m\n| rule v strict: n\n| rule w defeater: not o\n"
	for condition, holds := range map[string]bool{
		"p": true, "not p": false, "q": false, "not q": true, "m": false, "not m": false, "n": true, "o": false, "not o": false,
		"p and not q and n and a": true, "p and none": false, "none and p": false, "p and m": false, "m and a": false, "a and (p and (not q and a))": true,
		// In anything else but `and` and `not` names of the theory are the file's.
		"p or q": false, "p or a": true, "not not p": false, "not (p and p)": true, "p > 0": false, "d": true, "not d": true, "e": false,
	} {
		want := "[{c 0}]"
		if holds {
			want = "[{c 500}]"
		}
		checkAmounts(t, map[string]string{rules + "| define d: p and not q\n| define e: not p and a\n| amount c: 5 if " + condition + "\n": want})
	}
}

func TestP101AmountsOfAmounts(t *testing.T) {
	checkAmounts(t, map[string]string{
		"| amount b: c + 1\n| amount c: d + d\n| amount d: 5\n| amount d: 2\n": "[{b 1500} {c 1400} {d 700}]",
		// It is the amount that counts, not what the file says; also if none of its sentences holds.
		"| amount x: 5\n| amount y: x\n":             "[{x 500} {y 500}]",
		"| amount x: 5 if none\n| amount y: x + 1\n": "[{x 0} {y 100}]",
		// In `count` and `total`, and in conditions, the file counts.
		"| amount x: 5\n| amount child: 7\n| amount y: total x of child + count child\n":    "[{child 700} {x 500} {y 600}]",
		"| amount x: 5\n| amount y: 1 if x = 777\n| amount z: 1 if x = 5\n":                 "[{x 500} {y 100} {z 0}]",
		"| amount x: total x of child\n":                                                    "[{x 500}]",
		"| amount child: total income of child + count child\n":                             "[{child 1100}]",
		"| amount x: 1 if x > 5 and some child (x) and x\n":                                 "[{x 100}]",
		"| rule r: x if a\n| amount x: 1 if x\n| amount y: x + 5 if not x or x and x = 777": "[{x 100} {y 600}]",
	})
}

func TestP101Rounding(t *testing.T) {
	// 99.99 of which 12.50% are 12.49875; 0.05 of which half are 0.025.
	for way, want := range map[string]string{
		"": "1250", "; round half_up": "1250", "; round half_even": "1250", "; round down": "1249", "; round up": "1250", "; round floor": "1249", "; round ceil": "1250",
	} {
		checkAmounts(t, map[string]string{"| amount c: income * 12.50%" + way + "\n": "[{c " + want + "}]"})
	}
	checkAmounts(t, map[string]string{
		"| amount c: 0.05 * 50%\n":                                            "[{c 3}]",
		"| amount c: 0.05 * 50%; round half_even\n":                           "[{c 2}]",
		"| amount c: [0 - 0.05] * 50%; round floor\n":                         "[{c -3}]",
		"| amount c: [0 - 0.05] * 50%; round ceil\n":                          "[{c -2}]",
		"| amount c: 0.05 * 50% * 50%; round up\n":                            "[{c 2}]",
		"| amount c: 0.05 * 50% + 0.05 * 50%; round down\n":                   "[{c 4}]",
		"| amount c: 0.05 * 50%; round down\n| amount c: 0.05 * 50%\n":        "[{c 5}]",
		"| amount b: c * 50%; round down\n| amount c: 0.05 * 50%; round up\n": "[{b 1} {c 3}]",
		// In a condition `*` is the file's: half up.
		"| amount c: 1 if 0.05 * 50% = 0.03; round down\n": "[{c 100}]",
	})
}

func TestP101AmountsThatHangOnThemselves(t *testing.T) {
	order := api.ErrOrder.Error()
	checkAmounts(t, map[string]string{
		"| amount c: c\n": order,
		"| amount c: 5\n| amount c: 1 + max(2, c * 5%) if none\n":                                       order,
		"| amount b: c\n| amount c: 1 + d if none\n| amount d: min(b, 1)\n":                             order,
		"| amount b: c\n| amount c: count child + total x of child\n| amount child: c\n| amount x: c\n": "[{b 600} {c 600} {child 600} {x 600}]",
		"| amount b: c + c\n| amount c: 1 if b = c\n":                                                   "[{b 200} {c 100}]",
		"| amount b: 5 + d\n| amount b: c\n| amount c: d\n| amount d: 1\n| amount d: e":                 "[{b 700} {c 100} {d 100}]",
		// It is told ahead of all that is wrong with amounts, but behind what is wrong with the theory.
		"| define u: u\n| amount a: 1 if u\n| amount b: 9999999999 + 9999999999\n| amount c: c\n": order,
		"| amount c: c\n| rule r: p if 9999999999 + 9999999999 > 1\n":                             api.ErrCoin.Error(),
		"| amount c: c\n| rule r: p; over r\n":                                                    order,
	})
}

// Definitions that can't be opened, or have too many nodes then, and sums that are too great.
const (
	selfish = "| define u: not u\n"
	wide    = "| define w1: a and a and a and a and a and a and a and a and a and a and a\n| define w2: w1 and w1 and w1 and w1 and w1 and w1 and w1 and w1 and w1 and w1\n| define w: w2 and w2 and w2 and w2 and w2 and w2 and w2 and w2 and w2 and w2\n"
	great   = "9999999999 + 9999999999"
)

func TestP101Errors(t *testing.T) {
	order, bound, coins := api.ErrOrder.Error(), api.ErrBound.Error(), api.ErrCoin.Error()
	checkAmounts(t, map[string]string{
		selfish + "| amount c: 1 if u\n":           order,
		wide + "| amount c: 1 if w\n":              bound,
		"| amount c: 1 if " + great + " > 1\n":     coins,
		"| amount c: " + great + "\n":              coins,
		"| amount c: " + great + " - 9999999999\n": coins,
		"| amount c: 10000000000 * 100.01%\n":      coins,
		// What does not hold is worth nothing: its sum is not looked at. But its condition is, to the end.
		"| amount c: " + great + " if none\n":                             "[{c 0}]",
		"| rule r: p if none\n| amount c: " + great + " if p\n":           "[{c 0}]",
		"| amount c: 1 if none and " + great + " > 1\n":                   coins,
		"| rule r: p if none\n| amount c: 1 if p and " + great + " > 1\n": coins,
		// The first amount's by name, not by place; of it the first sentence's; of that the condition's ahead of the sum's.
		wide + "| amount d: " + great + "\n| amount c: 1 if w\n":    bound,
		wide + "| amount c: " + great + "\n| amount d: 1 if w\n":    coins,
		wide + selfish + "| amount c: 1 if w\n| amount c: 1 if u\n": bound,
		wide + selfish + "| amount c: 1 if u\n| amount c: 1 if w\n": order,
		wide + "| amount c: " + great + " if w\n":                   bound,
		wide + "| amount c: 1 if " + great + " > 1 and w\n":         bound,
		// Of an amount that a sum speaks of: where its name stands.
		wide + "| amount c: d\n| amount d: 1 if w\n":                                              bound,
		wide + "| amount c: d + " + great + "\n| amount d: 1 if w\n":                              bound,
		wide + "| amount c: " + great + " + d\n| amount d: 1 if w\n":                              coins,
		wide + "| amount c: 1 + [" + great + "] + d\n| amount d: 1 if w\n":                        coins,
		wide + "| amount c: max(d, " + great + ")\n| amount d: e\n| amount e: 1 if w\n":           bound,
		wide + selfish + "| amount c: e + d\n| amount d: 1 if w\n| amount e: 1 if u\n":            order,
		wide + selfish + "| amount c: e + d if none\n| amount d: 1 if w\n| amount e: 1 if u\n":    bound,
		wide + selfish + "| amount c: 1\n| amount c: e\n| amount d: 1 if w\n| amount e: 1 if u\n": order,
	})
	if got := amountsText(lawOf(t, "| amount c: 1\n"), nil, Case{api.MaxPeople, 0, 0}); got != api.ErrKind.Error() {
		t.Error(got)
	}
	if got := amountsText(lawOf(t, "| amount c: c\n"), nil, Case{0, 5, 0}); got != api.ErrDay.Error() {
		t.Error(got)
	}
}

func TestP101TooGreatTogether(t *testing.T) {
	coins := api.ErrCoin.Error()
	most := strconv.Itoa(api.MaxCoin)
	checkAmounts(t, map[string]string{
		"| amount c: 10000000000\n":                                  "[{c " + most + "}]",
		"| amount c: 10000000000\n| amount c: 0.01\n":                coins,
		"| amount c: 0 - 10000000000\n| amount c: 0 - 0.01\n":        coins,
		"| amount c: 9999999999\n| amount c: 1\n":                    "[{c " + most + "}]",
		"| amount c: 10000000000\n| amount c: 0.01 if none\n":        "[{c " + most + "}]",
		"| amount b: c\n| amount c: 10000000000\n| amount c: 0.01\n": coins,
		// It is all of them together that counts.
		"| amount c: 10000000000\n| amount c: 10000000000\n| amount c: 0 - 10000000000\n": "[{c " + most + "}]",
		// What is wrong with a sentence comes ahead of that.
		wide + "| amount c: 10000000000\n| amount c: 10000000000\n| amount c: 1 if w\n":                    api.ErrBound.Error(),
		wide + "| amount b: c + d\n| amount c: 10000000000\n| amount c: 10000000000\n| amount d: 1 if w\n": coins,
	})
}

// explain a literal, and check what comes.
func explain(t *testing.T, l api.Item, f *facts.File, c Case, name string, positive bool) string {
	t.Helper()
	rows, ok, err := Why(l, f, c, name, positive)
	if err != nil || !ok {
		if rows != nil || ok {
			t.Errorf("%s: %q beside %v, %v", name, rows, ok, err)
		}
		return fmt.Sprint(err)
	}
	th, names, _, _ := Theory(l, f, c)
	steps, err := why.Read(strings.Join(rows, "\n"), names)
	if err != nil || len(steps) != len(rows) {
		t.Errorf("%s: %q can't be read: %v", name, rows, err)
	}
	if right, err := why.Check(th, steps); !right || err != nil {
		t.Errorf("%s: %q: %v, %v", name, rows, right, err)
	}
	return rows[len(rows)-1]
}

func TestP102Why(t *testing.T) {
	l := lawOf(t, "| rule r1: elig if old and resident\n| rule r2: not elig if banned; over r1\n| rule r3 strict: resident if here\n| rule u: m if m\n| define old: age >= 60\n| amount c: c\n| amount d: "+great+"\n")
	here := []facts.Fact{is(0, "age", 6000), is(0, "here", 1)}
	for _, c := range []struct {
		list     []facts.Fact
		name     string
		positive bool
		want     string
	}{
		{here, "elig", true, "holds elig"}, {here, "elig", false, "fails not elig"}, {here, "resident", true, "holds resident"}, {here, "resident", false, "fails not resident"},
		{nil, "elig", true, "fails elig"}, {nil, "elig", false, "fails not elig"}, {nil, "resident", true, "fails resident"},
		{append(slices.Clone(here), is(0, "banned", 1)), "elig", true, "fails elig"}, {append(slices.Clone(here), is(0, "banned", 1)), "elig", false, "holds not elig"},
		// Neither, or no such name.
		{here, "m", true, "<nil>"}, {here, "m", false, "fails not m"}, {here, "old", true, "<nil>"}, {here, "here", false, "<nil>"}, {here, "r1", true, "<nil>"}, {here, "c", true, "<nil>"}, {here, "", true, "<nil>"}, {here, "not elig", true, "<nil>"},
	} {
		if got := explain(t, l, fileOf(t, c.list...), usual, c.name, c.positive); got != c.want {
			t.Errorf("%v, %s %v: %s; want %s", c.list, c.name, c.positive, got, c.want)
		}
	}
	for c, want := range map[Case]error{{-1, 0, 0}: api.ErrKind, {0, 0, 1}: api.ErrDay, {0, 1, 0}: api.ErrDay} {
		for _, name := range []string{"elig", "none"} {
			if got := explain(t, l, nil, c, name, true); got != want.Error() {
				t.Errorf("%v: %s; want %v", c, got, want)
			}
		}
	}
	if got := explain(t, lawOf(t, selfish+"| rule r: p if u\n| rule s: q\n"), nil, usual, "q", true); got != api.ErrOrder.Error() {
		t.Error(got)
	}
}

func TestP102HowALineIsWritten(t *testing.T) {
	l := lawOf(t, "| rule r strict: p\n| rule s: not q if p\n")
	for _, c := range []struct {
		name     string
		positive bool
		want     []string
	}{
		{"p", true, []string{"sure p", "holds p"}},
		{"q", true, []string{"not sure q", "fails q"}},
	} {
		if rows, ok, err := Why(l, nil, usual, c.name, c.positive); !ok || err != nil || !slices.Equal(rows, c.want) {
			t.Errorf("%q, %v, %v; want %q", rows, ok, err, c.want)
		}
	}
}

func TestP4NothingIsShared(t *testing.T) {
	l := lawOf(t, "| define d: q and q\n| rule r: p if d; over s\n| rule s: not p if d\n| rule t: q\n| amount c: 5 if p\n")
	f := fileOf(t, is(0, "a", 1))
	before := fmt.Sprint(l, *f)
	theory, amounts := theoryText(l, f, usual), amountsText(l, f, usual)
	th, names, from, _ := Theory(l, f, usual)
	a, _ := Decide(l, f, usual)
	rows, _, _ := Why(l, f, usual, "p", true)
	bodies := th.Rules[0].Body
	bodies[0], names[0], from[0], th.Over[0], rows[0] = 77, "x", 9, [2]int{8, 8}, "y"
	_ = append(bodies, 5)
	th.Rules[2].Head = 9
	a.Names[0], a.Amounts[0].Cents, a.Known.Holds[0], a.Known.Sure[0] = "z", 1, 7, 7
	if fmt.Sprint(th.Rules[1].Body) != "[2 2]" {
		t.Error("two bodies are one")
	}
	if theoryText(l, f, usual) != theory || amountsText(l, f, usual) != amounts || fmt.Sprint(l, *f) != before {
		t.Error("what was written into an answer shows")
	}
}

func TestP1LawsOfAllKinds(t *testing.T) {
	within := make([]api.Item, 2)
	for i := range within {
		within[i] = api.Item{Label: strconv.Itoa(i + 1), Kids: within, Lines: []string{"define a: b", "rule r: s if not a", "rule t: not s", "amount c: 1 + d if s", "amount d: 2"}}
	}
	odd := api.Item{Label: "law", Lines: []string{"rule r: p", "", "rule \xff", strings.Repeat("rule ", 1000)}, Kids: []api.Item{
		{Lines: []string{"rule s: not p"}, Kids: []api.Item{{Lines: []string{"rule t: p"}}}}, {Label: "a/b", Lines: []string{"rule u: not p", "amount c: 5"}},
	}}
	for what, c := range map[string]struct {
		l            api.Item
		theory, sums string
	}{
		"without an end": {api.Item{Kids: within}, api.ErrBound.Error(), api.ErrBound.Error()},
		"odd labels":     {odd, "[p] [0 1 2 3] [{1 1 []} {1 -1 []} {1 1 []} {1 -1 []}] [[2 1] [3 0]]", "[{c 500}]"},
	} {
		if got := theoryText(c.l, nil, usual); got != c.theory {
			t.Errorf("%s: %s", what, got)
		}
		if got := amountsText(c.l, nil, usual); got != c.sums {
			t.Errorf("%s: %s", what, got)
		}
		Why(c.l, nil, usual, "s", true)
	}
}

func TestP1LongWaysOfAmounts(t *testing.T) {
	const size = 100000
	l := many(size, func(i int) string { return "amount a" + strconv.Itoa(i) + ": a" + strconv.Itoa(i+1) + " + 1" })
	a, err := Decide(l, nil, usual)
	if err != nil || len(a.Amounts) != size || a.Amounts[0] != (Amount{"a0", 100 * size}) {
		t.Error(len(a.Amounts), err)
	}
	l.Lines = append(l.Lines, "amount a"+strconv.Itoa(size)+": "+great)
	if got := amountsText(l, nil, usual); got != api.ErrCoin.Error() {
		t.Error(got)
	}
	l.Lines[size] = "amount a" + strconv.Itoa(size) + ": a5 if none"
	if got := amountsText(l, nil, usual); got != api.ErrOrder.Error() {
		t.Error(got)
	}
}

func TestP1ManyRulesByLongWays(t *testing.T) {
	const size = 6000
	l := many(2*size, func(i int) string {
		if i < size {
			return "define d" + strconv.Itoa(i) + ": d" + strconv.Itoa(i+1)
		}
		return "rule r: p if d0" + strings.Repeat(" and d"+strconv.Itoa(i-size), 20)
	})
	if got := theoryText(l, nil, usual); got != "[p] [] [] []" {
		t.Error(got)
	}
	l.Lines = append(l.Lines, "rule s: d"+strconv.Itoa(size))
	if got := theoryText(l, nil, usual); got != api.ErrBound.Error() {
		t.Error(got)
	}
}
