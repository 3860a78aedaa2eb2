package ledger

import (
	"fmt"
	"math"
	"math/rand"
	"slices"
	"testing"

	"statute/api"
	"statute/sums"
)

// found is a claim of one Pay, whose time is over.
func found(on, cents int) Claim {
	return Claim{Day: on, Due: []sums.Pay{{From: 1, To: 2, Cents: cents}}}
}

// settled tells entries as text, or the error beside which there are none.
func settled(l []Claim, rate int) string {
	entries, err := Settle(l, rate)
	if err != nil {
		if entries != nil {
			return "something beside an error"
		}
		return err.Error()
	}
	return fmt.Sprint(entries)
}

func checkSettle(t *testing.T, l []Claim, rate int, want string) {
	t.Helper()
	if got := settled(l, rate); got != want {
		t.Errorf("%+v at %d:\n%s; want\n%s", l, rate, got, want)
	}
}

func checkNotSettled(t *testing.T, l []Claim, rate int, want error) {
	t.Helper()
	if entries, err := Settle(l, rate); entries != nil || err != want {
		t.Errorf("%d claims at %d: %v, %v; want %v", len(l), rate, entries, err, want)
	}
}

func TestP131WhatIsFoundAnew(t *testing.T) {
	for _, x := range []struct {
		rights []int // of claims on the days 11, 12, ..
		rate   int
		want   string
	}{
		{nil, 5000, "[]"},
		{[]int{0, 0}, 5000, "[]"},
		{[]int{250}, 5000, "[{11 anew [{rights -250} {paid 250}]}]"},
		{[]int{250, 250}, 5000, "[{11 anew [{rights -250} {paid 250}]}]"},
		{[]int{250, 400}, 5000, "[{11 anew [{rights -250} {paid 250}]} {12 anew [{rights -150} {paid 150}]}]"},
		// The document's own example: too much was paid, and half of what comes next is kept back.
		{[]int{25000, 20000, 30000}, 5000, "[{11 anew [{rights -25000} {paid 25000}]} {12 anew [{rights 5000} {debts -5000}]} {13 anew [{rights -10000} {paid 5000} {debts 5000}]}]"},
		// What is kept back is no more than the debt, nor than the part.
		{[]int{100, 60, 70, 170, 180}, 5000, "[{11 anew [{rights -100} {paid 100}]} {12 anew [{rights 40} {debts -40}]} {13 anew [{rights -10} {paid 5} {debts 5}]} {14 anew [{rights -100} {paid 65} {debts 35}]} {15 anew [{rights -10} {paid 10}]}]"},
		// Rounded to the lower one.
		{[]int{100, 0, 1, 4}, 5000, "[{11 anew [{rights -100} {paid 100}]} {12 anew [{rights 100} {debts -100}]} {13 anew [{rights -1} {paid 1}]} {14 anew [{rights -3} {paid 2} {debts 1}]}]"},
		{[]int{100, 0, 9999}, 1, "[{11 anew [{rights -100} {paid 100}]} {12 anew [{rights 100} {debts -100}]} {13 anew [{rights -9999} {paid 9999}]}]"},
		{[]int{100, 0, 10000}, 1, "[{11 anew [{rights -100} {paid 100}]} {12 anew [{rights 100} {debts -100}]} {13 anew [{rights -10000} {paid 9999} {debts 1}]}]"},
		// Nothing is kept back, or all.
		{[]int{100, 0, 100}, 0, "[{11 anew [{rights -100} {paid 100}]} {12 anew [{rights 100} {debts -100}]} {13 anew [{rights -100} {paid 100}]}]"},
		{[]int{100, 0, 100}, 10000, "[{11 anew [{rights -100} {paid 100}]} {12 anew [{rights 100} {debts -100}]} {13 anew [{rights -100} {debts 100}]}]"},
		{[]int{100, 0, 130}, 10000, "[{11 anew [{rights -100} {paid 100}]} {12 anew [{rights 100} {debts -100}]} {13 anew [{rights -130} {paid 30} {debts 100}]}]"},
		// Debt upon debt, and a right that is below 0.
		{[]int{100, 70, 50}, 10000, "[{11 anew [{rights -100} {paid 100}]} {12 anew [{rights 30} {debts -30}]} {13 anew [{rights 20} {debts -20}]}]"},
		{[]int{-40, -10, 0}, 5000, "[{11 anew [{rights 40} {debts -40}]} {12 anew [{rights -30} {paid 15} {debts 15}]} {13 anew [{rights -10} {paid 5} {debts 5}]}]"},
	} {
		var l []Claim
		for i, right := range x.rights {
			l = append(l, found(11+i, right))
		}
		checkSettle(t, l, x.rate, x.want)
	}
}

func TestP131TheRightIsOfWhatIsOver(t *testing.T) {
	due := []sums.Pay{{From: 40, To: 50, Cents: 1000}, {From: 1, To: 31, Cents: 1}, {From: 31, To: 32, Cents: 10}, {From: 1, To: 50, Cents: -100}}
	for _, x := range []struct {
		on   int
		want string
	}{
		{1, "[]"}, {30, "[]"},
		{31, "[{31 anew [{rights -1} {paid 1}]}]"},
		{32, "[{32 anew [{rights -11} {paid 11}]}]"},
		{49, "[{49 anew [{rights -11} {paid 11}]}]"},
		{50, "[{50 anew [{rights -911} {paid 911}]}]"},
		{api.MaxDay, "[{3652059 anew [{rights -911} {paid 911}]}]"},
	} {
		checkSettle(t, []Claim{{Day: x.on, Due: due}}, 5000, x.want)
	}
	// Each claim is the whole truth: what is missing in it is no longer due.
	checkSettle(t, []Claim{{Day: 60, Due: due}, {Day: 61, Due: due[:3]}, {Day: 62}}, 10000,
		"[{60 anew [{rights -911} {paid 911}]} {61 anew [{rights -100} {paid 100}]} {62 anew [{rights 1011} {debts -1011}]}]")
	checkSettle(t, []Claim{{Day: 31, Due: due}, {Day: 40, Due: due}, {Day: 41, Due: due}}, 10000,
		"[{31 anew [{rights -1} {paid 1}]} {40 anew [{rights -10} {paid 10}]}]")
	// The same Pay twice is due twice.
	checkSettle(t, []Claim{{Day: 60, Due: slices.Repeat(due[1:2], 3)}}, 0, "[{60 anew [{rights -3} {paid 3}]}]")
}

func TestP131AtTheBounds(t *testing.T) {
	checkSettle(t, []Claim{found(5, api.MaxCoin), found(6, 0), found(7, api.MaxCoin), found(api.MaxDay, 0)}, 10000,
		"[{5 anew [{rights -1000000000000} {paid 1000000000000}]} {6 anew [{rights 1000000000000} {debts -1000000000000}]} {7 anew [{rights -1000000000000} {debts 1000000000000}]} {3652059 anew [{rights 1000000000000} {debts -1000000000000}]}]")
	checkSettle(t, []Claim{found(5, -api.MaxCoin)}, 0, "[{5 anew [{rights 1000000000000} {debts -1000000000000}]}]")
	// A right is what its Pays come to together, whatever their order.
	last := sums.Pay{From: api.MaxDay - 1, To: api.MaxDay, Cents: api.MaxCoin}
	off := sums.Pay{From: 1, To: 2, Cents: -api.MaxCoin}
	checkSettle(t, []Claim{{Day: api.MaxDay, Due: []sums.Pay{last, last, off}}}, 0, "[{3652059 anew [{rights -1000000000000} {paid 1000000000000}]}]")
	checkSettle(t, []Claim{{Day: api.MaxDay - 1, Due: []sums.Pay{last, last, last, off, last}}}, 0, "[{3652058 anew [{rights 1000000000000} {debts -1000000000000}]}]")

	var l []Claim
	for i := range api.MaxSteps {
		l = append(l, Claim{Day: 10 + i, Due: slices.Repeat([]sums.Pay{{From: 1, To: 2, Cents: 1 + i%2}}, maxPays)})
	}
	entries, err := Settle(l, 10000)
	if err != nil || len(entries) != api.MaxSteps {
		t.Fatal(len(entries), err)
	}
	if got, want := fmt.Sprint(entries[:3]), "[{10 anew [{rights -400} {paid 400}]} {11 anew [{rights -400} {paid 400}]} {12 anew [{rights 400} {debts -400}]}]"; got != want {
		t.Errorf("%s; want %s", got, want)
	}
}

func TestP131WhatIsTooMuch(t *testing.T) {
	checkNotSettled(t, make([]Claim, api.MaxSteps+1), 0, api.ErrBound)
	checkNotSettled(t, []Claim{found(5, 1), {Day: 6, Due: slices.Repeat([]sums.Pay{{From: 1, To: 2}}, maxPays+1)}}, 0, api.ErrBound)
	for _, n := range tooGreat {
		checkNotSettled(t, []Claim{found(5, n)}, 0, api.ErrCoin)
		// Also what is not due yet.
		checkNotSettled(t, []Claim{{Day: 5, Due: []sums.Pay{{From: 1, To: 9}, {From: 9, To: 10, Cents: n}}}}, 0, api.ErrCoin)
	}
	for _, rate := range []int{-1, 10001, math.MinInt, math.MaxInt, api.MaxRate} {
		checkNotSettled(t, nil, rate, api.ErrCoin)
		checkNotSettled(t, []Claim{found(5, 1)}, rate, api.ErrCoin)
	}
	two := func(a, b int) []sums.Pay { return []sums.Pay{{From: 1, To: 2, Cents: a}, {From: 2, To: 3, Cents: b}} }
	great := api.MaxCoin
	for _, l := range [][]Claim{
		// A right.
		{{Day: 5, Due: two(great, 1)}},
		{{Day: 5, Due: two(-great, -1)}},
		{found(4, great), {Day: 5, Due: two(great, 1)}},
		// A D.
		{found(4, -1), found(5, great)},
		{found(4, 1), found(5, -great)},
		// A debt.
		{found(4, great), found(5, 0), found(6, -1)},
		{found(4, 5), found(5, 0), found(6, 4-great)},
		{found(4, 5), found(5, 4-great)},
		// What was paid together.
		{found(4, great), found(5, 0), found(6, 1)},
		{found(4, great), found(5, great-2), found(6, great)},
	} {
		checkNotSettled(t, l, 0, api.ErrCoin)
	}
	checkSettle(t, []Claim{found(4, 5), found(5, 5-great)}, 0, "[{4 anew [{rights -5} {paid 5}]} {5 anew [{rights 1000000000000} {debts -1000000000000}]}]")
	// Where all is kept back, nothing more is paid.
	checkSettle(t, []Claim{found(4, great), found(5, 0), found(6, 1)}, 10000,
		"[{4 anew [{rights -1000000000000} {paid 1000000000000}]} {5 anew [{rights 1000000000000} {debts -1000000000000}]} {6 anew [{rights -1} {debts 1}]}]")
	checkNotSettled(t, []Claim{found(4, great), found(5, great-2), found(6, great)}, 5000, api.ErrCoin)
	// It is looked at claim by claim what was paid: a debt of as much does not make up for it.
	checkNotSettled(t, []Claim{found(4, great), found(5, great-9), found(6, great), found(7, 0)}, 0, api.ErrCoin)
}

func TestP131DaysThatAreWrong(t *testing.T) {
	for _, n := range noDays {
		checkNotSettled(t, []Claim{{Day: n}}, 0, api.ErrDay)
		checkNotSettled(t, []Claim{{Day: 5}, {Day: n}}, 0, api.ErrDay)
		checkNotSettled(t, []Claim{{Day: 5}, {Day: 6, Due: []sums.Pay{{From: 1, To: 2}, {From: n, To: 9}}}}, 0, api.ErrDay)
		checkNotSettled(t, []Claim{{Day: 5, Due: []sums.Pay{{From: 1, To: n}}}}, 0, api.ErrDay)
	}
	for _, l := range [][]Claim{
		{{Day: 5}, {Day: 5}},
		{{Day: 5}, {Day: 6}, {Day: 4}},
		{{Day: api.MaxDay}, {Day: 1}},
		{{Day: 5, Due: []sums.Pay{{From: 3, To: 3}}}},
		{{Day: 5, Due: []sums.Pay{{From: 3, To: 2}}}},
		// Also of what is not due yet.
		{{Day: 5, Due: []sums.Pay{{From: 30, To: 30}}}},
	} {
		checkNotSettled(t, l, 0, api.ErrDay)
	}
	checkSettle(t, []Claim{{Day: 1}, {Day: 2}, {Day: api.MaxDay}}, 0, "[]")
}

func TestP131TheFirstThatIsWrongIsTold(t *testing.T) {
	tooMany := Claim{Day: 9, Due: make([]sums.Pay, maxPays+1)}
	checkNotSettled(t, []Claim{{Day: 0}, found(5, math.MaxInt), tooMany}, -1, api.ErrBound)
	checkNotSettled(t, make([]Claim, api.MaxSteps+1), -1, api.ErrBound)
	checkNotSettled(t, []Claim{found(5, math.MaxInt), {Day: 5}}, -1, api.ErrDay)
	checkNotSettled(t, []Claim{found(5, math.MaxInt), {Day: 6, Due: []sums.Pay{{From: 2, To: 1}}}}, -1, api.ErrDay)
	checkNotSettled(t, []Claim{found(5, -1), found(6, api.MaxCoin), {Day: 6}}, 0, api.ErrDay)
}

// reckoned is what P131 says, word by word, of rights on days: the entries, and what is owed and was paid together in the end.
func reckoned(days, all []int, rate int) (entries []Entry, debt, total int) {
	ahead := 0
	for i, right := range all {
		d := right - ahead
		ahead = right
		switch {
		case d > 0:
			w := d * rate / 10000
			if debt < w {
				w = debt
			}
			debt -= w
			total += d - w
			e := Entry{Day: days[i], Text: "anew", Lines: []Line{{"rights", -d}}}
			if d-w != 0 {
				e.Lines = append(e.Lines, Line{"paid", d - w})
			}
			if w != 0 {
				e.Lines = append(e.Lines, Line{"debts", w})
			}
			entries = append(entries, e)
		case d < 0:
			debt -= d
			entries = append(entries, Entry{Day: days[i], Text: "anew", Lines: []Line{{"rights", -d}, {"debts", d}}})
		}
	}
	return entries, debt, total
}

func someClaims(r *rand.Rand) (l []Claim, days, all []int) {
	on := 0
	for range r.Intn(12) {
		on += 1 + r.Intn(9)
		c := Claim{Day: on}
		right := 0
		for range r.Intn(5) {
			p := sums.Pay{From: 1 + r.Intn(30), Cents: r.Intn(400) - 100}
			p.To = p.From + 1 + r.Intn(20)
			if p.To <= on {
				right += p.Cents
			}
			c.Due = append(c.Due, p)
		}
		l, days, all = append(l, c), append(days, on), append(all, right)
	}
	return l, days, all
}

func TestP131GoesClaimByClaim(t *testing.T) {
	r := rand.New(rand.NewSource(131))
	for range 3000 {
		l, days, all := someClaims(r)
		rate := []int{0, 1, 3333, 5000, 9999, 10000}[r.Intn(6)]
		want, debt, total := reckoned(days, all, rate)
		checkSettle(t, l, rate, fmt.Sprint(want))
		if t.Failed() {
			return
		}
		// What is told can be posted, and the sheet of it tells how things stand.
		entries, _ := Settle(l, rate)
		sheet, err := Sheet(entries)
		if err != nil {
			t.Fatal(err)
		}
		stands := map[string]int{"rights": 0, "paid": total, "debts": -debt}
		if len(all) > 0 {
			stands["rights"] = -all[len(all)-1]
		}
		for _, x := range sheet {
			if x.Cents != stands[x.Account] {
				t.Fatalf("%+v at %d: %v; want %v", l, rate, sheet, stands)
			}
		}
	}
}

func TestP4SettleReadsAndAnswersAnew(t *testing.T) {
	made := func() []Claim { return []Claim{found(5, 100), found(6, 0), found(7, 50)} }
	l := made()
	first, err := Settle(l, 5000)
	if err != nil || fmt.Sprint(l) != fmt.Sprint(made()) {
		t.Fatal("what was handed over was changed", l, err)
	}
	was := fmt.Sprint(first)
	l[0].Due[0].Cents = 7
	if fmt.Sprint(first) != was {
		t.Error("what was answered shows a later change:", first)
	}
	// A line more in one entry is none in another.
	_ = append(first[0].Lines, Line{"x", 1})
	first[1].Lines[0] = Line{"y", 2}
	checkSettle(t, made(), 5000, was)
	if fmt.Sprint(first[2]) != "{7 anew [{rights -50} {paid 25} {debts 25}]}" {
		t.Error(first[2])
	}
}
