package desk

import (
	"fmt"
	"math/rand"
	"strings"
	"testing"

	"statute/api"
	"statute/day"
	"statute/facts"
)

// signed is a journal of entries that are written without their sums.
func signed(entries ...string) string {
	text, sum := "", uint64(0)
	for _, e := range entries {
		for _, b := range []byte(e) {
			sum = (sum*31 + uint64(b)) % 4294967291
		}
		text += strings.Replace(e, "\n", fmt.Sprintf(" %08x\n", sum), 1)
	}
	return text
}

const houseEntry = "law 2026-01-01\n law Of houses\n | rule r1: elig if here\n | rule r2: not elig if banned; over r1\n | amount basic: 310 if elig\n | amount rent: 5\n 1 Doors\n"

const moreEntry = "act\n act More made 2026-01-05 from 2026-01-11\n line 2 of law: amount basic: 620 if elig\n"

const hereEntry = "fact 3 here -1 1 739617 0 739623\n"

// full is a desk at which something of each kind was done, and its journal's entries.
func full(t *testing.T) (*Desk, []string) {
	t.Helper()
	d := deskOf(t, house)
	add(t, d, is(3, "here", 6))
	pass(t, d, more)
	add(t, d, facts.Fact{Who: 39, Name: "child_2", Other: 0, Value: -api.MaxCoin, From: jan, To: jan + 1, Learnt: 1})
	pass(t, d, "act Put made 2026-01-05 from 2026-01-05\nput in 1:\n  a Keys\n    | one key\nrepeal 7")
	return d, []string{
		houseEntry, hereEntry, moreEntry, "fact 39 child_2 0 -1000000000000 739617 739618 1\n",
		"act\n act Put made 2026-01-05 from 2026-01-05\n put in 1:\n   a Keys\n     | one key\n repeal 7\n",
	}
}

func TestP162Journal(t *testing.T) {
	d := deskOf(t, house)
	if d.Journal() != signed(houseEntry) {
		t.Errorf("%q", d.Journal())
	}
	d, entries := full(t)
	if d.Journal() != signed(entries...) {
		t.Errorf("%q; want %q", d.Journal(), signed(entries...))
	}
}

func TestP162SumsAsTheyAre(t *testing.T) {
	d, err := New("law A\n", 1)
	if err != nil {
		t.Fatal(err)
	}
	add(t, d, facts.Fact{Name: "a", Other: -1, From: 1, Learnt: 1})
	if got := d.Journal(); got != "law 0001-01-01 "+sumOf(0, "law 0001-01-01\n law A\n")+"\n law A\nfact 0 a -1 0 1 0 1 "+sumOf(0, "law 0001-01-01\n law A\nfact 0 a -1 0 1 0 1\n")+"\n" {
		t.Errorf("%q", got)
	}
	for _, c := range []struct {
		sum  int
		want string
	}{{0, "00000000"}, {10, "0000000a"}, {4294967290, "fffffffa"}, {0x0abcdef1, "0abcdef1"}} {
		if got := sumText(c.sum); got != c.want {
			t.Error(c.sum, got)
		}
	}
}

// sumOf all bytes of a text, from a sum on.
func sumOf(sum int, text string) string {
	for i := range len(text) {
		sum = (sum*31 + int(text[i])) % 4294967291
	}
	return fmt.Sprintf("%08x", sum)
}

func TestP162TheLawAsItWasHandedOver(t *testing.T) {
	for _, c := range []struct{ law, want string }{
		{"law", " law\n"}, {"law\n", " law\n"}, {"law\n\n", " law\n \n"}, {"law\n\n\n", " law\n \n \n"},
		{"\nlaw A\n   \n1\n", " \n law A\n    \n 1\n"}, {"law\n  ", " law\n   \n"}, {"law\n  \n", " law\n   \n"},
		{"law\n1\n  a\n    |\n\n", " law\n 1\n   a\n     |\n \n"},
		{"law act\n| law 2026-01-01 00000000", " law act\n | law 2026-01-01 00000000\n"},
	} {
		d := deskOf(t, c.law)
		want := signed("law 2026-01-01\n" + c.want)
		if d.Journal() != want {
			t.Errorf("%q: %q", c.law, d.Journal())
		}
		checkOpens(t, want, 1, want)
	}
}

func TestP162TextsOfAllBytesThatCanBe(t *testing.T) {
	for _, end := range []string{"\n", "\n\n", " ", " \n", " \n\n", "1", "1\n", "1\n\n"} {
		d := deskOf(t, "law\n"+strings.Repeat("\n", api.MaxText-len("law\n")-len(end))+end)
		checkOpens(t, d.Journal(), 1, d.Journal())
	}
	act := "act A made 2026-01-05 from 2026-01-05"
	for len(act) < api.MaxText-300 {
		act += "\nhead law: " + strings.Repeat("x", 300-len("\nhead law: "))
	}
	act += "\nhead law: "
	act += strings.Repeat("x", api.MaxText-len(act))
	for _, text := range []string{act, act[:len(act)-1] + "\n"} {
		d := deskOf(t, house, text)
		checkOpens(t, d.Journal(), 2, d.Journal())
	}
}

// checkOpens opens a journal: so many entries must be taken, and these be the journal of the desk.
func checkOpens(t *testing.T, text string, taken int, journal string) {
	t.Helper()
	d, n, err := Open(text)
	switch {
	case taken == 0:
		if d != nil || n != 0 || err != api.ErrText {
			t.Errorf("%.80q: %d, %v; want none", text, n, err)
		}
	case d == nil || err != nil || n != taken:
		t.Errorf("%.80q: %d, %v; want %d", text, n, err, taken)
	case d.Journal() != journal:
		t.Errorf("%.80q: %.200q; want %.200q", text, d.Journal(), journal)
	case d.Work() != 0:
		t.Errorf("%.80q: something was asked", text)
	}
}

func TestP162OpenWhereverItIsCutOff(t *testing.T) {
	d, entries := full(t)
	text := d.Journal()
	for end := range len(text) + 1 {
		taken := 0
		for taken < len(entries) && len(signed(entries[:taken+1]...)) <= end {
			taken++
		}
		checkOpens(t, text[:end], taken, signed(entries[:taken]...))
	}
}

func TestP162OpenWhereverAByteIsAnother(t *testing.T) {
	d, entries := full(t)
	text := d.Journal()
	r := rand.New(rand.NewSource(162))
	for at := range len(text) {
		taken := 0
		for len(signed(entries[:taken+1]...)) <= at {
			taken++
		}
		for _, b := range []byte{'\n', ' ', '0', text[at] + 1, text[at] ^ 0x20, byte(r.Intn(256))} {
			if b == text[at] {
				continue
			}
			// A blank where an entry begins: it would be a line of the one ahead.
			want := taken
			if b == ' ' && taken > 0 && len(signed(entries[:taken]...)) == at {
				want--
			}
			checkOpens(t, text[:at]+string([]byte{b})+text[at+1:], want, signed(entries[:want]...))
		}
	}
}

func TestP162OpenWhereverAByteIsMoreOrLess(t *testing.T) {
	d, entries := full(t)
	text := d.Journal()
	for at := range len(text) {
		taken := 0
		for len(signed(entries[:taken+1]...)) <= at {
			taken++
		}
		want := taken
		if len(signed(entries[:taken]...)) == at && at > 0 {
			want--
		}
		checkOpens(t, text[:at]+" "+text[at:], want, signed(entries[:want]...))
		checkOpens(t, text[:at]+"\x00"+text[at:], taken, signed(entries[:taken]...))
		checkOpens(t, text[:at]+text[at+1:], taken, signed(entries[:taken]...))
	}
}

func TestP162WhatStandsBehindWholeEntries(t *testing.T) {
	d, entries := full(t)
	text := d.Journal()
	for _, c := range []struct {
		more string
		less int
	}{
		{"\n", 0}, {"\n\n", 0}, {"x", 0}, {"x\n", 0}, {"fact 0 x 00000000\n", 0}, {"act 1\n", 0}, {"\x00", 0}, {text, 0}, {"act", 0}, {"\n" + text, 0},
		// A line that begins with a blank is one of the entry ahead.
		{" ", 1}, {" \n", 1}, {" x", 1}, {" x\n", 1}, {" fact\n", 1},
	} {
		n := len(entries) - c.less
		checkOpens(t, text+c.more, n, signed(entries[:n]...))
	}
}

func TestP162EntriesThatAreNotDone(t *testing.T) {
	for _, e := range []string{
		// Not what is written of a fact.
		"fact 03 here -1 1 739617 0 739623\n", "fact +3 here -1 1 739617 0 739623\n", "fact 3 here -01 1 739617 0 739623\n", "fact 3 here -1 1 739617 -0 739623\n",
		"fact 3  here -1 1 739617 0 739623\n", "fact 3 here -1 1 739617 0 739623 \n", "fact 3 here -1 1 739617 0 739623 0\n",
		"fact 3 here -1 1 739617 0\n", "fact\n", "fact x here -1 1 739617 0 739623\n", "fact 3 here -1 1 739617  739623\n", "facts 3 here -1 1 739617 0 739623\n",
		"Fact 3 here -1 1 739617 0 739623\n", "fact 3 here -1 1_0 739617 0 739623\n", "fact 3 here -1 0x1 739617 0 739623\n", "fact 3 here -1 1 2026-01-01 0 739623\n",
		"fact 3 here -1 18446744073709551617 739617 0 739623\n", "fact 18446744073709551619 here -1 1 739617 0 739623\n",
		"fact 3 here -1 1 739617 0 739623\n x\n", "fact 3 here -1 1 739617 0 739623\n \n", "fact 3 here -1 1 739617 0 739623\r\n",
		// Facts that are none.
		"fact 40 here -1 1 739617 0 739623\n", "fact 3 Here -1 1 739617 0 739623\n", "fact 3 here 3 1 739617 0 739623\n", "fact 3 here -1 1000000000001 739617 0 739623\n", "fact 3 here -1 1 0 0 739623\n", "fact 3 here -1 1 739617 739617 739623\n",
		// Acts that are none, or can't be passed.
		"act\n", "act\n \n", "act\n act A made 2026-01-05\n", "act\n act A made 2026-01-05 from 2026-01-05\n \n", "act\n  act A made 2026-01-05 from 2026-01-05\n",
		"act x\n act A made 2026-01-05 from 2026-01-05\n", "act \n act A made 2026-01-05 from 2026-01-05\n", "Act\n act A made 2026-01-05 from 2026-01-05\n",
		"act\n act More made 2026-01-05 from 2026-01-05\n", "act\n act A made 2026-01-04 from 2026-01-05\n", "act\n act A made 2026-01-06 from 2026-01-05\n",
		"act\n act A made 2026-01-05 from 2026-01-05\n act B made 2026-01-05 from 2026-01-05\n",
		// Nothing of this.
		"law 2026-01-01\n law Of houses\n", houseEntry, "x\n", "duty\n",
	} {
		text := signed(houseEntry, moreEntry, e, hereEntry)
		checkOpens(t, text, 2, signed(houseEntry, moreEntry))
	}
}

func TestP162FirstEntriesThatAreNone(t *testing.T) {
	for _, e := range []string{
		"\n", "law\n", "law 2026-01-01\n", "law 2026-01-01\n \n", "law\n law A\n", "law  2026-01-01\n law A\n", "law 2026-1-1\n law A\n", "law 2026-02-29\n law A\n", "law 739617\n law A\n",
		"law 2026-01-01 x\n law A\n", "law 0000-01-01\n law A\n", "law 2026-01-01\n  law A\n", "law 2026-01-01\n law A\n 1\n 1\n", "Law 2026-01-01\n law A\n", " law 2026-01-01\n law A\n", "lawx 2026-01-01\n law A\n",
		"2026-01-01\n law A\n", "act\n law A\n", "law 2026-01-01\n act A\n",
		moreEntry, hereEntry, "law 2026-01-01\n law" + strings.Repeat("\n ", api.MaxText) + "\n",
	} {
		checkOpens(t, signed(e), 0, "")
		checkOpens(t, signed(e, houseEntry), 0, "")
	}
	checkOpens(t, "", 0, "")
	checkOpens(t, houseEntry, 0, "")
	checkOpens(t, house, 0, "")
	checkOpens(t, strings.TrimSuffix(signed(houseEntry), "\n"), 0, "")
}

func TestP162SumsThatAreNotRight(t *testing.T) {
	text := signed(houseEntry, moreEntry, hereEntry)
	one, two := signed(houseEntry), signed(houseEntry, moreEntry)
	head, behind, _ := strings.Cut(text[len(one):], "\n")
	sum := strings.TrimPrefix(head, "act ")
	if len(sum) != 8 || strings.ToUpper(sum) == sum {
		t.Fatal(sum)
	}
	for _, wrong := range []string{
		strings.ToUpper(sum), "0" + sum, sum[:7], sum[1:], sum + " ", " " + sum, sum + "0", "", "00000000", "0x" + sum[2:], "+" + sum[1:],
		// The sum of the entry alone.
		sumOf(0, moreEntry),
	} {
		checkOpens(t, one+"act "+wrong+"\n"+behind, 1, one)
	}
	checkOpens(t, one+"act "+sum+"\n"+behind, 3, text)
	checkOpens(t, one+"act\t"+sum+"\n"+behind, 1, one)
	checkOpens(t, one+"act"+sum+"\n"+behind, 1, one)
	// Entries that are right, but elsewhere.
	checkOpens(t, one+text[len(two):]+text[len(one):len(two)], 1, one)
	checkOpens(t, two+two[len(one):], 2, two)
	checkOpens(t, text[len(one):], 0, "")
}

func TestP162AnOpenedDeskGoesOn(t *testing.T) {
	d, entries := full(t)
	for n := 1; n <= len(entries); n++ {
		e, taken, err := Open(signed(entries[:n]...))
		if err != nil || taken != n {
			t.Fatal(taken, err)
		}
		if n < len(entries) {
			continue
		}
		for _, x := range []*Desk{d, e} {
			add(t, x, is(4, "here", 3))
			pass(t, x, "act Last made 2026-02-01 from 2026-02-01\nrepeal 1\n")
			if err := x.Pass(more); err != api.ErrName {
				t.Error(err)
			}
		}
		if d.Journal() != e.Journal() {
			t.Errorf("%q; want %q", e.Journal(), d.Journal())
		}
		for on := range 40 {
			for known := range 10 {
				checkSame(t, e, d, caseOf(3, on, known))
			}
		}
	}
}

// checkSame asks two desks of a case, in all ways.
func checkSame(t *testing.T, a, b *Desk, c struct{ Who, On, Known int }) {
	t.Helper()
	tell := func(d *Desk) string {
		answer, err := d.Ask(c)
		rows, is, err2 := d.Why(c, "elig", true)
		pays, err3 := d.Due(c.Who, "basic", c.On, c.On+9, c.Known, api.HalfUp)
		law, notes, there := d.Law(c.On, c.Known)
		return fmt.Sprint(answer, err, rows, is, err2, pays, err3, law, notes, there)
	}
	if got, want := tell(a), tell(b); got != want {
		t.Errorf("%+v: %s; want %s", c, got, want)
	}
}

func TestP162WhatHadAnErrorIsNotInTheJournal(t *testing.T) {
	d, entries := full(t)
	for range 2 {
		if d.Pass(more) == nil || d.Pass("") == nil || d.Add(is(-1, "here", 0)) == nil || d.Add(facts.Fact{}) == nil {
			t.Error("no error")
		}
	}
	d.Ask(caseOf(3, 20, 20))
	d.Law(jan, jan)
	if d.Journal() != signed(entries...) {
		t.Errorf("%q", d.Journal())
	}
}

func TestP162TheFirstAndTheLastDay(t *testing.T) {
	for _, on := range []int{1, api.MaxDay} {
		d, err := New("law A", on)
		if err != nil {
			t.Fatal(err)
		}
		want := signed("law " + day.Text(on) + "\n law A\n")
		if d.Journal() != want {
			t.Errorf("%q", d.Journal())
		}
		checkOpens(t, want, 1, want)
	}
}

func TestP1OpenAnyText(t *testing.T) {
	d, _ := full(t)
	text := d.Journal()
	r := rand.New(rand.NewSource(1))
	for range 5000 {
		b := []byte(text)
		for range 1 + r.Intn(3) {
			i, j := r.Intn(len(b)+1), r.Intn(len(b)+1)
			switch r.Intn(3) {
			case 0:
				b = append(b[:min(i, j):min(i, j)], b[max(i, j):]...)
			case 1:
				b = append(b[:max(i, j):max(i, j)], b[min(i, j):]...)
			default:
				b = append(append(b[:i:i], byte(r.Intn(256))), b[i:]...)
			}
		}
		e, n, err := Open(string(b))
		if (e == nil) != (err != nil) || (n == 0) != (err != nil) || err != nil && err != api.ErrText || err == nil && !strings.HasPrefix(string(b), e.Journal()) {
			t.Fatalf("%q: %d, %v", b, n, err)
		}
	}
}
