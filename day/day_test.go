package day

import (
	"errors"
	"math"
	"testing"
	"time"

	"statute/api"
)

// noDays are numbers that are no days.
var noDays = []int{0, -1, api.MaxDay + 1, math.MaxInt, math.MinInt}

// must is the day of a text that has one.
func must(t *testing.T, text string) int {
	t.Helper()
	n, err := Read(text)
	if err != nil {
		t.Fatalf("Read(%q): %v", text, err)
	}
	return n
}

// checkBare holds an answer against what P3 asks of an error without a place.
func checkBare(t *testing.T, what any, n int, err, want error) {
	t.Helper()
	if n != 0 || err != want {
		t.Errorf("%v: %d, %v; want 0, %v", what, n, err, want)
	}
}

// checkFault holds an error against what P3 asks of an error with a place.
func checkFault(t *testing.T, text string, err, want error, at int) {
	t.Helper()
	var f *api.Fault
	if !errors.As(err, &f) {
		t.Errorf("%q: %v: no *api.Fault", text, err)
		return
	}
	if f.Err != want || f.At != at {
		t.Errorf("%q: %v at %d; want %v at %d", text, f.Err, f.At, want, at)
	}
}

func TestP20EveryDayIsThatOfTheCalendar(t *testing.T) {
	at := time.Date(1, 1, 1, 0, 0, 0, 0, time.UTC)
	for day := 1; day <= api.MaxDay; day++ {
		wantYear, wantMonth, wantDate := at.Date()
		year, month, date := Parts(day)
		if year != wantYear || month != int(wantMonth) || date != wantDate {
			t.Fatalf("Parts(%d): %d, %d, %d; want %v", day, year, month, date, at)
		}
		if n, err := Of(year, month, date); n != day || err != nil {
			t.Fatalf("Of(%d, %d, %d): %d, %v; want %d", year, month, date, n, err, day)
		}
		if week := Week(day); week != (int(at.Weekday())+6)%7 {
			t.Fatalf("Week(%d): %d; want that of %v", day, week, at.Weekday())
		}
		at = at.AddDate(0, 0, 1)
	}
	if year := at.Year(); year != 10000 {
		t.Errorf("behind MaxDay comes the year %d", year)
	}
}

func TestP20EveryDayIsReadAsItIsWritten(t *testing.T) {
	for day := 1; day <= api.MaxDay; day += 13 {
		year, month, date := Parts(day)
		want := time.Date(year, time.Month(month), date, 0, 0, 0, 0, time.UTC).Format("2006-01-02")
		if text := Text(day); text != want {
			t.Fatalf("Text(%d): %q; want %q", day, text, want)
		}
		if n, err := Read(want); n != day || err != nil {
			t.Fatalf("Read(%q): %d, %v; want %d", want, n, err, day)
		}
	}
	if text := Text(api.MaxDay); text != "9999-12-31" {
		t.Errorf("Text(MaxDay): %q", text)
	}
}

func TestP20OfTellsDatesThatAreNone(t *testing.T) {
	for _, c := range [][3]int{
		{0, 1, 1}, {-1, 1, 1}, {10000, 1, 1}, {0, 12, 31}, {math.MaxInt, 1, 1}, {math.MinInt, 1, 1},
		{2026, 0, 1}, {2026, -1, 1}, {2026, 13, 1}, {2026, math.MaxInt, 1}, {2026, math.MinInt, 1},
		{2026, 1, 0}, {2026, 1, -1}, {2026, 1, 32}, {2026, 1, math.MaxInt}, {2026, 1, math.MinInt},
		{2026, 2, 29}, {2024, 2, 30}, {1900, 2, 29}, {2000, 2, 30}, {2100, 2, 29}, {4, 2, 30}, {100, 2, 29},
		{2026, 3, 32}, {2026, 4, 31}, {2026, 5, 32}, {2026, 6, 31}, {2026, 7, 32}, {2026, 8, 32}, {2026, 9, 31}, {2026, 10, 32}, {2026, 11, 31}, {2026, 12, 32},
	} {
		n, err := Of(c[0], c[1], c[2])
		checkBare(t, c, n, err, api.ErrDay)
	}
}

func TestP20WhatIsNoDayHasNoParts(t *testing.T) {
	for _, n := range noDays {
		if year, month, date := Parts(n); year != 0 || month != 0 || date != 0 {
			t.Errorf("Parts(%d): %d, %d, %d", n, year, month, date)
		}
		if week := Week(n); week != -1 {
			t.Errorf("Week(%d): %d", n, week)
		}
		if text := Text(n); text != "" {
			t.Errorf("Text(%d): %q", n, text)
		}
	}
}

func TestP20ReadTellsTheFirstWrongByte(t *testing.T) {
	for _, c := range []struct {
		text string
		at   int
	}{
		{"", 0}, {"x", 0}, {" 2026-01-01", 0}, {"-", 0}, {"2", 1}, {"202", 3}, {"202-01-01", 3}, {"2026", 4}, {"20260101", 4}, {"2026x", 4}, {"2026/01/01", 4}, {"12026-01-01", 4},
		{"2026-", 5}, {"2026--1", 5}, {"2026-1", 6}, {"2026-1-01", 6}, {"2026-01", 7}, {"2026-01/01", 7}, {"2026-011", 7},
		{"2026-01-", 8}, {"2026-01-x", 8}, {"2026-01-1", 9}, {"2026-01-1x", 9}, {"2026-01-01x", 10}, {"2026-01-011", 10}, {"2026-01-01-", 10}, {"2026-01-01\x00", 10},
		{"\x00", 0}, {"202\xff-01-01", 3}, {"\u0662026-01-01", 0}, {"2026\u201001-01", 4},
		{"2026-99-99x", 10}, {"0000-00-00 ", 10}, {"2026-13-x", 8},
	} {
		n, err := Read(c.text)
		checkFault(t, c.text, err, api.ErrText, c.at)
		if n != 0 {
			t.Errorf("Read(%q): %d beside an error", c.text, n)
		}
	}
}

func TestP20ReadTellsDatesThatAreNone(t *testing.T) {
	for _, text := range []string{"0000-01-01", "0000-00-00", "2026-00-01", "2026-13-01", "2026-01-00", "2026-01-32", "2026-02-29", "1900-02-29", "9999-99-99"} {
		n, err := Read(text)
		checkFault(t, text, err, api.ErrDay, 0)
		if n != 0 {
			t.Errorf("Read(%q): %d beside an error", text, n)
		}
	}
}

func TestP21MonthsKeepTheDateOrTakeTheLast(t *testing.T) {
	for _, c := range []struct {
		from string
		n    int
		want string
	}{
		{"2026-11-16", 0, "2026-11-16"}, {"2026-11-16", 1, "2026-12-16"}, {"2026-11-16", 2, "2027-01-16"}, {"2026-11-16", 13, "2027-12-16"}, {"2026-11-16", 14, "2028-01-16"},
		{"2026-01-16", -1, "2025-12-16"}, {"2026-12-16", -11, "2026-01-16"}, {"2026-12-16", -12, "2025-12-16"}, {"2026-12-16", -24, "2024-12-16"},
		{"2026-01-31", 1, "2026-02-28"}, {"2026-01-29", 1, "2026-02-28"}, {"2026-01-28", 1, "2026-02-28"}, {"2024-01-31", 1, "2024-02-29"}, {"2024-01-29", 1, "2024-02-29"},
		{"2026-01-31", 2, "2026-03-31"}, {"2026-01-31", 3, "2026-04-30"}, {"2026-03-31", -1, "2026-02-28"}, {"2026-02-28", 1, "2026-03-28"}, {"2024-02-29", 12, "2025-02-28"}, {"2024-02-29", 48, "2028-02-29"}, {"2000-02-29", -1200, "1900-02-28"},
		{"0001-01-01", 12*9999 - 1, "9999-12-01"}, {"9999-12-31", -(12*9999 - 1), "0001-01-31"}, {"0001-02-01", -1, "0001-01-01"}, {"9999-11-30", 1, "9999-12-30"},
	} {
		n, err := Months(must(t, c.from), c.n)
		if err != nil || Text(n) != c.want {
			t.Errorf("Months(%s, %d): %s, %v; want %s", c.from, c.n, Text(n), err, c.want)
		}
	}
}

func TestP21MonthsTellWhatIsNoDay(t *testing.T) {
	for _, day := range noDays {
		n, err := Months(day, 1)
		checkBare(t, day, n, err, api.ErrDay)
		n, err = Months(day, 0)
		checkBare(t, day, n, err, api.ErrDay)
	}
	for _, c := range [][2]int{
		{1, -1}, {31, -1}, {api.MaxDay, 1}, {api.MaxDay - 30, 1}, {1, 12 * 9999}, {api.MaxDay, -12 * 9999}, {1, -12}, {1, -13}, {1, -24},
		{5, math.MaxInt}, {5, math.MinInt}, {api.MaxDay, math.MaxInt}, {1, math.MinInt}, {5, 1 << 32}, {5, -1 << 32},
	} {
		n, err := Months(c[0], c[1])
		checkBare(t, c, n, err, api.ErrDay)
	}
}

func TestP110MonthEnd(t *testing.T) {
	end := 0
	for day := api.MaxDay; day >= 1; day-- {
		_, month, _ := Parts(day)
		if _, next, _ := Parts(day + 1); month != next {
			end = day
		}
		if got := MonthEnd(day); got != end {
			t.Fatalf("MonthEnd(%d): %d; want %d", day, got, end)
		}
	}
	for _, day := range noDays {
		if got := MonthEnd(day); got != 0 {
			t.Errorf("MonthEnd(%d): %d", day, got)
		}
	}
}
