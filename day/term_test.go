package day

import (
	"math"
	"math/rand"
	"strings"
	"testing"

	"statute/api"
)

func TestP23DueGoesByUnitsAndIsRolled(t *testing.T) {
	c := &Calendar{Off: [7]bool{5: true, 6: true}, Holidays: []int{must(t, "2026-12-25"), must(t, "2027-01-01")}}
	for _, x := range []struct {
		start string
		term  Term
		want  string
	}{
		{"2026-11-16", Term{}, "2026-11-16"}, {"2026-11-15", Term{}, "2026-11-15"}, {"2026-11-15", Term{Roll: api.Next}, "2026-11-16"}, {"2026-11-15", Term{Roll: api.Before}, "2026-11-13"},
		{"2026-11-16", Term{N: 3}, "2026-11-19"}, {"2026-11-16", Term{N: 5}, "2026-11-21"}, {"2026-11-16", Term{N: 5, Roll: api.Next}, "2026-11-23"}, {"2026-11-16", Term{N: 5, Roll: api.Before}, "2026-11-20"},
		{"2026-11-16", Term{N: 3, Unit: api.Weeks}, "2026-12-07"}, {"2026-12-04", Term{N: 3, Unit: api.Weeks, Roll: api.Next}, "2026-12-28"}, {"2026-12-04", Term{N: 3, Unit: api.Weeks, Roll: api.Before}, "2026-12-24"},
		{"2026-01-31", Term{N: 1, Unit: api.Months}, "2026-02-28"}, {"2026-01-31", Term{N: 1, Unit: api.Months, Roll: api.Next}, "2026-03-02"}, {"2026-01-31", Term{N: 1, Unit: api.Months, Roll: api.Before}, "2026-02-27"},
		{"2024-02-29", Term{N: 1, Unit: api.Years}, "2025-02-28"}, {"2024-02-29", Term{N: 4, Unit: api.Years}, "2028-02-29"}, {"2026-01-01", Term{N: 1, Unit: api.Years, Roll: api.Next}, "2027-01-04"}, {"2026-01-01", Term{N: 1, Unit: api.Years, Roll: api.Before}, "2026-12-31"},
		{"2026-12-23", Term{N: 2, Unit: api.Working}, "2026-12-28"}, {"2026-12-25", Term{N: 0, Unit: api.Working}, "2026-12-25"}, {"2026-12-25", Term{N: 0, Unit: api.Working, Roll: api.Before}, "2026-12-24"}, {"2026-12-25", Term{N: 6, Unit: api.Working, Roll: api.Next}, "2027-01-05"},
		{"0001-01-01", Term{N: api.MaxTerm}, "0274-10-17"}, {"0001-01-01", Term{N: 9998, Unit: api.Years}, "9999-01-01"}, {"9999-12-30", Term{N: 1}, "9999-12-31"},
	} {
		n, err := c.Due(must(t, x.start), x.term)
		if err != nil || Text(n) != x.want {
			t.Errorf("Due(%s, %+v): %s, %v; want %s", x.start, x.term, Text(n), err, x.want)
		}
	}
}

func TestP23DueTellsTheFirstThatIsWrong(t *testing.T) {
	c := &Calendar{Off: [7]bool{5: true, 6: true}}
	last := api.MaxDay
	for _, x := range []struct {
		start int
		term  Term
		want  error
	}{
		{5, Term{N: -1}, api.ErrBound}, {5, Term{N: api.MaxTerm + 1}, api.ErrBound}, {5, Term{N: math.MaxInt, Unit: api.Years}, api.ErrBound}, {5, Term{N: math.MinInt, Unit: api.Working}, api.ErrBound},
		{0, Term{N: -1, Unit: 9, Roll: 9}, api.ErrBound}, {0, Term{N: api.MaxTerm + 1, Unit: api.Months}, api.ErrBound},
		{5, Term{Unit: 5}, api.ErrKind}, {5, Term{Unit: -1}, api.ErrKind}, {5, Term{Roll: 3}, api.ErrKind}, {5, Term{Roll: -1}, api.ErrKind}, {0, Term{Unit: 5}, api.ErrKind}, {0, Term{Roll: 3}, api.ErrKind}, {last, Term{N: 1, Roll: -1}, api.ErrKind}, {5, Term{Unit: math.MinInt}, api.ErrKind}, {5, Term{Roll: math.MaxInt}, api.ErrKind},
		{last, Term{N: 1}, api.ErrDay}, {last, Term{N: 1, Roll: api.Before}, api.ErrDay}, {last - 6, Term{N: 1, Unit: api.Weeks}, api.ErrDay}, {last, Term{N: 1, Unit: api.Months}, api.ErrDay}, {last, Term{N: 1, Unit: api.Years}, api.ErrDay}, {last, Term{N: 1, Unit: api.Working}, api.ErrDay}, {5, Term{N: api.MaxTerm, Unit: api.Years}, api.ErrDay}, {5, Term{N: api.MaxTerm, Unit: api.Years, Roll: api.Before}, api.ErrDay},
	} {
		n, err := c.Due(x.start, x.term)
		checkBare(t, x, n, err, x.want)
	}
	for _, start := range noDays {
		for unit := api.Days; unit <= api.Years; unit++ {
			n, err := c.Due(start, Term{N: 5, Unit: unit})
			checkBare(t, []int{start, unit}, n, err, api.ErrDay)
		}
	}
	none := &Calendar{Off: allOff}
	n, err := none.Due(5, Term{N: 1, Roll: api.Next})
	checkBare(t, "no working day", n, err, api.ErrDay)
	// -2 and 5 days behind it: what comes out is a day, but the start is none.
	n, err = c.Due(-2, Term{N: 5})
	checkBare(t, "a start that is no day", n, err, api.ErrDay)
}

func TestP24TermsAreReadAsTheyAreWritten(t *testing.T) {
	for text, want := range map[string]Term{
		"0 days": {}, "1 days": {N: 1}, "10 days, next": {N: 10, Roll: api.Next}, "7 days, before": {N: 7, Roll: api.Before},
		"3 working days": {N: 3, Unit: api.Working}, "3 working days, next": {N: 3, Unit: api.Working, Roll: api.Next}, "20 working days, before": {N: 20, Unit: api.Working, Roll: api.Before},
		"2 weeks": {N: 2, Unit: api.Weeks}, "2 weeks, next": {N: 2, Unit: api.Weeks, Roll: api.Next}, "0 weeks, before": {Unit: api.Weeks, Roll: api.Before},
		"18 months": {N: 18, Unit: api.Months}, "18 months, next": {N: 18, Unit: api.Months, Roll: api.Next}, "99999 months, before": {N: 99999, Unit: api.Months, Roll: api.Before},
		"100000 years": {N: api.MaxTerm, Unit: api.Years}, "5 years, next": {N: 5, Unit: api.Years, Roll: api.Next}, "5 years, before": {N: 5, Unit: api.Years, Roll: api.Before},
	} {
		got, err := ReadTerm(text)
		if err != nil || got != want {
			t.Errorf("ReadTerm(%q): %+v, %v; want %+v", text, got, err, want)
		}
		if back := TermText(want); back != text {
			t.Errorf("TermText(%+v): %q; want %q", want, back, text)
		}
	}
}

func TestP24ReadTermTellsTheFirstWrongByte(t *testing.T) {
	for _, c := range []struct {
		text string
		at   int
	}{
		{"", 0}, {" ", 0}, {"x", 0}, {"days", 0}, {"-3 days", 0}, {"+3 days", 0}, {" 3 days", 0}, {"\u0663 days", 0},
		{"0", 1}, {"00 days", 1}, {"01 days", 1}, {"3", 1}, {"3days", 1}, {"3x", 1}, {"3\tdays", 1}, {"12,000 days", 2}, {"12", 2}, {"3.5 days", 1},
		{"3 ", 2}, {"3  days", 2}, {"3 day", 2}, {"3 Days", 2}, {"3 working", 2}, {"3 working  days", 2}, {"3 working weeks", 2}, {"3 workingdays", 2}, {"12 week", 3}, {"1 month", 2}, {"1 year", 2}, {"3 , next", 2}, {"3 next", 2},
		{"3 daysx", 6}, {"3 days ", 6}, {"3 days next", 6}, {"3 daysweeks", 6}, {"3 working daysx", 14}, {"3 weeks;", 7}, {"3 months.", 8}, {"3 years\x00", 7},
		{"3 days,", 7}, {"3 days,next", 7}, {"3 days,,", 7}, {"3 days, ", 8}, {"3 days,  next", 8}, {"3 days, nex", 8}, {"3 days, Next", 8}, {"3 days, stay", 8}, {"3 days, befor", 8}, {"3 days, x", 8},
		{"3 days, nextx", 12}, {"3 days, next ", 12}, {"3 days, next, before", 12}, {"3 days, beforex", 14}, {"3 days, before, next", 14}, {"3 working days, before ", 22},
		{"999999 day", 7}, {"99999999999999999999 days, nex", 27}, {"100001", 6}, {"100001 days.", 11},
	} {
		got, err := ReadTerm(c.text)
		checkFault(t, c.text, err, api.ErrText, c.at)
		if got != (Term{}) {
			t.Errorf("ReadTerm(%q): %+v beside an error", c.text, got)
		}
	}
}

func TestP24ReadTermTellsLengthsThatAreTooGreat(t *testing.T) {
	for _, text := range []string{"100001 days", "999999 working days, next", "18446744073709551616 weeks", "18446744073709551617 years", strings.Repeat("9", 5000) + " months, before"} {
		got, err := ReadTerm(text)
		checkFault(t, text, err, api.ErrBound, 0)
		if got != (Term{}) {
			t.Errorf("ReadTerm(%q): %+v beside an error", text, got)
		}
	}
}

func TestP24WhatIsNoTermHasNoText(t *testing.T) {
	for _, term := range []Term{
		{N: -1}, {N: api.MaxTerm + 1}, {N: math.MinInt}, {N: math.MaxInt}, {Unit: -1}, {Unit: 5}, {Unit: math.MaxInt}, {Roll: -1}, {Roll: 3}, {Roll: math.MinInt},
	} {
		if text := TermText(term); text != "" {
			t.Errorf("TermText(%+v): %q", term, text)
		}
	}
}

func FuzzP24WhatIsReadIsWrittenTheSame(f *testing.F) {
	for _, text := range []string{"0 days", "3 working days, next", "100000 years, before", "01 days", "3 days, nex"} {
		f.Add(text)
	}
	f.Fuzz(func(t *testing.T, text string) {
		term, err := ReadTerm(text)
		if err == nil && TermText(term) != text {
			t.Errorf("%q is written as %q", text, TermText(term))
		}
	})
}

func TestP23APlanIsTheCalendarAsItWas(t *testing.T) {
	r := rand.New(rand.NewSource(23))
	for range 2000 {
		start := someDay(r)
		c := someCalendar(r, start)
		if r.Intn(9) == 0 {
			c = nil
		}
		p := c.Plan()
		term := Term{N: r.Intn(30) - 1, Unit: r.Intn(6), Roll: r.Intn(4)}
		want, wantErr := c.Due(start, term)
		if c != nil {
			clear(c.Holidays)
		}
		if n, err := p.Due(start, term); n != want || err != wantErr {
			t.Fatalf("Due(%d, %+v) of a plan: %d, %v; want %d, %v", start, term, n, err, want, wantErr)
		}
	}
}
