package ledger

import (
	"errors"
	"fmt"
	"maps"
	"math"
	"math/rand"
	"reflect"
	"slices"
	"strings"
	"testing"

	"statute/api"
)

var (
	noDays   = []int{0, -1, math.MinInt, api.MaxDay + 1, math.MaxInt}
	tooGreat = []int{api.MaxCoin + 1, -api.MaxCoin - 1, math.MaxInt, math.MinInt}
)

// entry of a day, whose lines are told as an account and its cents, one behind the other.
func entry(on int, text string, lines ...any) Entry {
	e := Entry{Day: on, Text: text}
	for i := 0; i < len(lines); i += 2 {
		e.Lines = append(e.Lines, Line{lines[i].(string), lines[i+1].(int)})
	}
	return e
}

func ledgerOf(t *testing.T, l ...Entry) *Ledger {
	t.Helper()
	g := New()
	for i, e := range l {
		if err := g.Post(e); err != nil {
			t.Fatalf("entry %d, %+v: %v", i, e, err)
		}
	}
	return g
}

// told is all that a ledger tells, on some days, of its accounts and of one that it has not.
func told(g *Ledger, days ...int) string {
	text := fmt.Sprint(g.Entries(), g.Accounts())
	for _, on := range days {
		for _, account := range append(g.Accounts(), "nobody") {
			text += fmt.Sprintf(" %s on %d: %d", account, on, g.Balance(account, on))
		}
	}
	return text
}

// checkPost posts an entry that is wrong: the ledger must stay as it was.
func checkPost(t *testing.T, g *Ledger, e Entry, want error) {
	t.Helper()
	was := told(g, 1, 5, api.MaxDay)
	if err := g.Post(e); err != want {
		t.Errorf("%+v: %v; want %v", e, err, want)
	}
	if now := told(g, 1, 5, api.MaxDay); now != was {
		t.Errorf("%+v: the ledger became another: %s; was %s", e, now, was)
	}
}

func TestP130ANewLedgerIsEmpty(t *testing.T) {
	g := New()
	if g == nil || g.Entries() != nil || g.Accounts() != nil || g.Balance("a", api.MaxDay) != 0 || g.Balance("", 0) != 0 {
		t.Errorf("%+v", g)
	}
	other := New()
	if err := other.Post(entry(1, "x", "a", 1, "b", -1)); err != nil {
		t.Fatal(err)
	}
	if len(g.Entries()) != 0 || len(g.Accounts()) != 0 {
		t.Error("two ledgers are one")
	}
}

func TestP130EntriesThatCanBePosted(t *testing.T) {
	var most []any
	for range maxLines / 2 {
		most = append(most, "a", 3, "b", -3)
	}
	l := []Entry{
		entry(1, ""),
		entry(1, "no lines"),
		entry(1, "the same day", "a", 1, "b", -1),
		entry(1, "a ~ b", "a", 1, "b", 1, "a", -2),
		entry(2, strings.Repeat("x", api.MaxLine), strings.Repeat("q", api.MaxWord), 5, "z9_", -5),
		entry(7, "nothing", "zero", 0),
		entry(7, "words of the grammar are words", "if", api.MaxCoin, "rule", -api.MaxCoin),
		entry(8, "most lines", most...),
		entry(api.MaxDay, "the last day", "a", -29),
	}
	l[8].Lines = append(l[8].Lines, Line{"b", 29})
	g := ledgerOf(t, l...)
	if got := g.Entries(); !reflect.DeepEqual(got, l) {
		t.Errorf("%+v; want %+v", got, l)
	}
	want := []string{"a", "b", "if", strings.Repeat("q", api.MaxWord), "rule", "z9_", "zero"}
	if got := g.Accounts(); !slices.Equal(got, want) {
		t.Errorf("%q; want %q", got, want)
	}
}

func TestP130Balance(t *testing.T) {
	g := ledgerOf(t,
		entry(5, "", "bank", 100, "ann", -100),
		entry(5, "", "bank", -30, "bob", 30),
		entry(9, "", "bank", 7, "ann", -2, "bank", 1, "ann", -6),
		entry(12, "", "ann", 108, "bank", -108, "empty", 0),
	)
	for _, x := range []struct {
		account string
		on      int
		want    int
	}{
		{"bank", 4, 0}, {"bank", 5, 70}, {"bank", 8, 70}, {"bank", 9, 78}, {"bank", 11, 78}, {"bank", 12, -30}, {"bank", api.MaxDay, -30},
		{"ann", 4, 0}, {"ann", 5, -100}, {"ann", 9, -108}, {"ann", 12, 0}, {"bob", 5, 30}, {"bob", 12, 30},
		{"empty", 12, 0}, {"none", 12, 0}, {"", 12, 0}, {"BANK", 12, 0}, {"ban", 12, 0},
		{"bank", 0, 0}, {"bank", -1, 0}, {"bank", math.MinInt, 0}, {"bank", math.MaxInt, -30},
	} {
		if got := g.Balance(x.account, x.on); got != x.want {
			t.Errorf("%s on %d: %d; want %d", x.account, x.on, got, x.want)
		}
	}
}

func TestP130EntriesThatCannot(t *testing.T) {
	g := ledgerOf(t, entry(5, "first", "bank", 10, "ann", -10))
	var many []any
	for range maxLines + 1 {
		many = append(many, "a", 0)
	}
	checkPost(t, g, entry(5, "", many...), api.ErrBound)
	checkPost(t, g, Entry{Day: 5, Lines: make([]Line, 1<<16)}, api.ErrBound)
	for _, n := range append([]int{1, 4}, noDays...) {
		checkPost(t, g, entry(n, "", "a", 1, "b", -1), api.ErrDay)
	}
	for _, n := range noDays {
		checkPost(t, New(), entry(n, ""), api.ErrDay)
	}
	for _, text := range []string{" ", " a", "a ", "a\n", "a\tb", "\x7f", "\x00", "ä", "\xff", strings.Repeat("x", api.MaxLine+1)} {
		checkPost(t, g, entry(5, text), api.ErrText)
	}
	for _, name := range []string{"", "A", "aB", "9", "_a", "a b", "a-b", " a", "a ", "ä", "a\x00", strings.Repeat("q", api.MaxWord+1)} {
		checkPost(t, g, entry(5, "", "a", 1, name, -1), api.ErrName)
		checkPost(t, g, entry(5, "", name, 0), api.ErrName)
	}
	for _, n := range tooGreat {
		checkPost(t, g, entry(5, "", "a", n, "b", -n), api.ErrCoin)
		checkPost(t, g, entry(5, "", "a", n, "a", -n), api.ErrCoin)
		checkPost(t, g, entry(5, "", "a", n), api.ErrCoin)
	}
	for _, e := range []Entry{
		entry(5, "", "a", 1),
		entry(5, "", "a", 1, "b", 1),
		entry(5, "", "a", -1, "b", 2),
		entry(5, "", "a", api.MaxCoin, "b", -api.MaxCoin, "c", 1),
		entry(5, "", "a", api.MaxCoin, "b", api.MaxCoin, "c", api.MaxCoin),
	} {
		checkPost(t, g, e, api.ErrOrder)
	}
}

func TestP130ABalanceThatIsTooGreat(t *testing.T) {
	g := ledgerOf(t, entry(5, "", "bank", 10, "ann", -10))
	checkPost(t, g, entry(6, "", "bank", api.MaxCoin-9, "b", 9-api.MaxCoin), api.ErrCoin)
	checkPost(t, g, entry(6, "", "ann", 9-api.MaxCoin, "b", api.MaxCoin-9), api.ErrCoin)
	// Also by several lines, and where they come to something else than 0.
	checkPost(t, g, entry(6, "", "a", api.MaxCoin, "a", 1, "b", -api.MaxCoin, "c", -1), api.ErrCoin)
	checkPost(t, g, entry(6, "", "a", -api.MaxCoin, "b", 1, "a", -api.MaxCoin), api.ErrCoin)
	checkPost(t, g, entry(6, "", "bank", api.MaxCoin), api.ErrCoin)
	for _, e := range []Entry{
		entry(6, "up to the bound", "bank", api.MaxCoin-10, "ann", 10-api.MaxCoin),
		// What counts is the balance behind the entry, whatever the order of its lines.
		entry(6, "", "bank", 1, "bank", -1),
		entry(6, "", "bank", api.MaxCoin, "bank", -api.MaxCoin, "ann", -api.MaxCoin, "ann", api.MaxCoin),
		entry(7, "from one bound to 0", "bank", -api.MaxCoin, "ann", api.MaxCoin),
	} {
		if err := g.Post(e); err != nil {
			t.Errorf("%+v: %v", e, err)
		}
	}
	if a, b := g.Balance("bank", 6), g.Balance("ann", 6); a != api.MaxCoin || b != -api.MaxCoin {
		t.Error(a, b)
	}
	if a, b := g.Balance("bank", 7), g.Balance("ann", 7); a != 0 || b != 0 {
		t.Error(a, b)
	}
}

func TestP130TheFirstThatIsWrongIsTold(t *testing.T) {
	g := ledgerOf(t, entry(5, "", "bank", api.MaxCoin, "ann", -api.MaxCoin))
	wrong := []struct {
		want   error
		change func(e *Entry)
	}{
		{api.ErrBound, func(e *Entry) { e.Lines = append(e.Lines, make([]Line, maxLines+1)...) }},
		{api.ErrDay, func(e *Entry) { e.Day = 4 }},
		{api.ErrText, func(e *Entry) { e.Text = " " }},
		{api.ErrName, func(e *Entry) { e.Lines = append(e.Lines, Line{"?", 0}) }},
		{api.ErrCoin, func(e *Entry) { e.Lines = append([]Line{{"bank", 1}}, e.Lines...) }},
		{api.ErrOrder, func(e *Entry) { e.Lines = append([]Line{{"a", 1}}, e.Lines...) }},
	}
	for i, w := range wrong {
		e := entry(5, "x", "a", 5, "b", -5)
		for _, x := range wrong[i:] {
			x.change(&e)
		}
		checkPost(t, g, e, w.want)
	}
}

func TestP130NoMoreThanMaxStepsEntries(t *testing.T) {
	g := New()
	for i := range api.MaxSteps {
		if err := g.Post(entry(1+i, "x", "a", 1, "b", -1)); err != nil {
			t.Fatal(i, err)
		}
	}
	for _, e := range []Entry{entry(api.MaxDay, ""), entry(0, " ", "?", math.MaxInt)} {
		checkPost(t, g, e, api.ErrBound)
	}
	if got := g.Balance("a", api.MaxDay); got != api.MaxSteps || g.Balance("b", 7) != -7 {
		t.Error(got)
	}
}

func TestP132Sheet(t *testing.T) {
	for _, x := range []struct {
		l    []Entry
		want string
	}{
		{nil, "[]"},
		{[]Entry{{Day: 3}, {Day: 3, Text: "none"}}, "[]"},
		{[]Entry{entry(3, "", "b", 2, "a", -2)}, "[{a -2} {b 2}]"},
		{[]Entry{entry(3, "", "b", 2, "a", -2), entry(3, "", "a", 2, "c", -2)}, "[{a 0} {b 2} {c -2}]"},
		{[]Entry{entry(3, "", "z", 0), entry(4, "", "a9", 1, "a_", -1), entry(api.MaxDay, "", "a", 0)}, "[{a 0} {a9 1} {a_ -1} {z 0}]"},
		{[]Entry{entry(3, "", "a", api.MaxCoin, "b", -api.MaxCoin)}, "[{a 1000000000000} {b -1000000000000}]"},
	} {
		if got, err := Sheet(x.l); fmt.Sprint(got) != x.want || err != nil {
			t.Errorf("%+v: %v, %v; want %s", x.l, got, err, x.want)
		}
	}
	if got, err := Sheet(nil); got != nil || err != nil {
		t.Error(got, err)
	}
}

func TestP132WhatIsWrongIsToldWithTheEntry(t *testing.T) {
	good := entry(3, "", "a", 1, "b", -1)
	long := slices.Repeat([]Entry{good}, api.MaxSteps+2)
	for _, x := range []struct {
		l    []Entry
		at   int
		want error
	}{
		{[]Entry{{}}, 0, api.ErrDay},
		{[]Entry{good, {Day: 2}}, 1, api.ErrDay},
		{[]Entry{good, good, {Day: 3, Lines: make([]Line, maxLines+1)}, {}}, 2, api.ErrBound},
		{[]Entry{good, entry(3, " "), {}}, 1, api.ErrText},
		{[]Entry{good, entry(4, "", "A", 0), good}, 1, api.ErrName},
		{[]Entry{entry(3, "", "a", api.MaxCoin+1), good}, 0, api.ErrCoin},
		{[]Entry{good, entry(3, "", "a", api.MaxCoin, "c", -api.MaxCoin)}, 1, api.ErrCoin},
		{[]Entry{good, good, entry(3, "", "c", 1)}, 2, api.ErrOrder},
		{long, api.MaxSteps, api.ErrBound},
		{append([]Entry{good, entry(3, "", "c", 1)}, long...), 1, api.ErrOrder},
	} {
		got, err := Sheet(x.l)
		var f *api.Fault
		if got != nil || !errors.As(err, &f) || f.At != x.at || f.Err != x.want {
			t.Errorf("%v, %#v; want %v at %d", got, err, x.want, x.at)
		}
	}
	if _, err := Sheet(long[:api.MaxSteps]); err != nil {
		t.Error(err)
	}
}

// someEntry is often right, and near the bounds.
func someEntry(r *rand.Rand) Entry {
	names, steps := []string{"a", "b", "c", "d"}, []int{0, 1, 5, api.MaxCoin / 3, api.MaxCoin}
	e := Entry{Day: 1 + r.Intn(40), Text: "x"}
	for range r.Intn(4) {
		n := steps[r.Intn(5)] * (1 - 2*r.Intn(2))
		e.Lines = append(e.Lines, Line{names[r.Intn(4)], n})
		if r.Intn(20) > 0 {
			e.Lines = append(e.Lines, Line{names[r.Intn(4)], -n})
		}
	}
	return e
}

// lineByLine are the balances of entries up to a day, each reckoned from the beginning.
func lineByLine(l []Entry, on int) map[string]int {
	balances := map[string]int{}
	for _, e := range l {
		for _, x := range e.Lines {
			if e.Day <= on {
				balances[x.Account] += x.Cents
			}
		}
	}
	return balances
}

// plainly is what Post answers of an entry behind others.
func plainly(l []Entry, e Entry) error {
	sum := 0
	for _, x := range e.Lines {
		sum += x.Cents
	}
	if len(l) > 0 && e.Day < l[len(l)-1].Day {
		return api.ErrDay
	}
	for _, cents := range lineByLine(append(slices.Clone(l), e), api.MaxDay) {
		if cents < -api.MaxCoin || cents > api.MaxCoin {
			return api.ErrCoin
		}
	}
	if sum != 0 {
		return api.ErrOrder
	}
	return nil
}

func TestP130AndP132GoLineByLine(t *testing.T) {
	r := rand.New(rand.NewSource(130))
	for range 400 {
		g := New()
		var l []Entry
		for range 60 {
			e := someEntry(r)
			want := plainly(l, e)
			if err := g.Post(e); err != want {
				t.Fatalf("%+v behind %+v: %v; want %v", e, l, err, want)
			}
			if want == nil {
				l = append(l, e)
			}
		}
		on := r.Intn(45)
		for _, account := range []string{"a", "b", "c", "d"} {
			if got, want := g.Balance(account, on), lineByLine(l, on)[account]; got != want {
				t.Fatalf("%s on %d: %d; want %d", account, on, got, want)
			}
		}
		all := lineByLine(l, api.MaxDay)
		accounts := slices.Sorted(maps.Keys(all))
		if got := g.Accounts(); !slices.Equal(got, accounts) {
			t.Fatalf("%q; want %q", got, accounts)
		}
		var want []Line
		for _, account := range accounts {
			want = append(want, Line{account, all[account]})
		}
		if got, err := Sheet(g.Entries()); err != nil || !slices.Equal(got, want) {
			t.Fatalf("%v, %v; want %v", got, err, want)
		}
	}
}

func TestP4ALedgerIsItsOwn(t *testing.T) {
	e := entry(5, "x", "a", 1, "b", -1)
	g := ledgerOf(t, e, e)
	was := told(g, 5)
	e.Lines[0] = Line{"c", 9}
	if now := told(g, 5); now != was {
		t.Errorf("what was handed over was kept: %s", now)
	}
	l := g.Entries()
	l[0].Lines[0], l[1].Text = Line{"c", 9}, "y"
	if l[1].Lines[0] != (Line{"a", 1}) {
		t.Error("two lists of one answer are one")
	}
	_ = append(l[0].Lines[:0], Line{"d", 4})
	clear(g.Accounts())
	if now := told(g, 5); now != was {
		t.Errorf("what was told is the ledger's own: %s", now)
	}
	entries := g.Entries()
	first, err := Sheet(entries)
	if err != nil || !reflect.DeepEqual(entries, g.Entries()) {
		t.Fatal("what was handed over was changed", entries, err)
	}
	clear(first)
	if again, _ := Sheet(entries); fmt.Sprint(again) != "[{a 2} {b -2}]" {
		t.Error(again)
	}
}

func TestP1LedgersThatAreNone(t *testing.T) {
	var none *Ledger
	if err := none.Post(entry(5, "")); err != api.ErrBound {
		t.Error(err)
	}
	if none.Entries() != nil || none.Accounts() != nil || none.Balance("a", 5) != 0 {
		t.Error("a ledger that is none has something")
	}
	var zero Ledger
	if err := zero.Post(entry(5, "", "a", 1, "b", -1)); err != nil || zero.Balance("a", 5) != 1 {
		t.Error(err)
	}
}
