package sums

import (
	"fmt"
	"math"
	"math/rand"
	"slices"
	"testing"

	"statute/api"
	"statute/day"
)

var allWays = []int{api.Down, api.Up, api.Floor, api.Ceil, api.HalfUp, api.HalfEven}

// noDays are numbers that are no days.
var noDays = []int{0, -1, api.MaxDay + 1, math.MaxInt, math.MinInt}

// must is the day of a text that has one.
func must(t *testing.T, text string) int {
	t.Helper()
	n, err := day.Read(text)
	if err != nil {
		t.Fatalf("%q: %v", text, err)
	}
	return n
}

// each is a list of so many days with one amount.
func each(n, cents int) []int { return slices.Repeat([]int{cents}, n) }

// paysText tells pays with their days as dates, or the error beside which there are none.
func paysText(pays []Pay, err error) string {
	if err != nil {
		if pays != nil {
			return "something beside an error"
		}
		return err.Error()
	}
	text := ""
	for _, p := range pays {
		text += fmt.Sprintf("%s %s %d; ", day.Text(p.From), day.Text(p.To), p.Cents)
	}
	return text
}

func TestP110Months(t *testing.T) {
	for _, c := range []struct {
		from  string
		daily []int
		want  string
	}{
		{"2026-01-30", []int{310, 620, 280, 281}, "2026-01-30 2026-02-01 30; 2026-02-01 2026-02-03 20; "},
		{"2026-01-01", each(31, 12345), "2026-01-01 2026-02-01 12345; "},
		{"2026-01-01", each(32, 12345), "2026-01-01 2026-02-01 12345; 2026-02-01 2026-02-02 441; "},
		{"2026-01-31", each(2, 310), "2026-01-31 2026-02-01 10; 2026-02-01 2026-02-02 11; "},
		{"2026-01-31", each(1, 310), "2026-01-31 2026-02-01 10; "},
		{"2026-01-01", each(1, 310), "2026-01-01 2026-01-02 10; "},
		{"2026-02-10", each(3, 280), "2026-02-10 2026-02-13 30; "},
		// How many days a month has.
		{"2024-02-01", each(29, 777), "2024-02-01 2024-03-01 777; "},
		{"2024-02-29", each(1, 290), "2024-02-29 2024-03-01 10; "},
		{"1900-02-28", each(2, 2800), "1900-02-28 1900-03-01 100; 1900-03-01 1900-03-02 90; "},
		{"2000-02-28", each(2, 2900), "2000-02-28 2000-03-01 200; "},
		{"2026-04-01", each(30, 3), "2026-04-01 2026-05-01 3; "},
		// From year to year.
		{"2026-12-31", each(2, 3100), "2026-12-31 2027-01-01 100; 2027-01-01 2027-01-02 100; "},
		{"2025-12-01", each(62, 1), "2025-12-01 2026-01-01 1; 2026-01-01 2026-02-01 1; "},
		// Rounded once: not day by day, and not what was rounded ahead.
		{"2026-04-01", each(15, 1), "2026-04-01 2026-04-16 1; "},
		{"2026-04-01", each(14, 1), "2026-04-01 2026-04-15 0; "},
		{"2026-04-29", []int{14, 1, 15, 1}, "2026-04-29 2026-05-01 1; 2026-05-01 2026-05-03 1; "},
		// Of 0, and below.
		{"2026-04-01", each(40, 0), "2026-04-01 2026-05-01 0; 2026-05-01 2026-05-11 0; "},
		{"2026-04-01", []int{-15}, "2026-04-01 2026-04-02 -1; "},
		{"2026-04-01", []int{-31, 31, -30}, "2026-04-01 2026-04-04 -1; "},
		{"2026-04-01", nil, ""},
		{"2026-04-01", []int{}, ""},
	} {
		if got := paysText(Months(c.daily, must(t, c.from), api.HalfUp)); got != c.want {
			t.Errorf("%s, %v: %s; want %s", c.from, c.daily, got, c.want)
		}
	}
}

func TestP110EveryWay(t *testing.T) {
	april := must(t, "2026-04-01")
	for _, c := range []struct {
		sum  int
		want [6]int // by way: Down, Up, Floor, Ceil, HalfUp, HalfEven
	}{
		{0, [6]int{}},
		{30, [6]int{1, 1, 1, 1, 1, 1}}, {-30, [6]int{-1, -1, -1, -1, -1, -1}},
		{15, [6]int{0, 1, 0, 1, 1, 0}}, {-15, [6]int{0, -1, -1, 0, -1, 0}},
		{45, [6]int{1, 2, 1, 2, 2, 2}}, {-45, [6]int{-1, -2, -2, -1, -2, -2}},
		{14, [6]int{0, 1, 0, 1, 0, 0}}, {-14, [6]int{0, -1, -1, 0, 0, 0}},
		{16, [6]int{0, 1, 0, 1, 1, 1}}, {-16, [6]int{0, -1, -1, 0, -1, -1}},
	} {
		for _, way := range allWays {
			for _, daily := range [][]int{{c.sum}, {c.sum - 7, 7}, {7, c.sum, -7}} {
				pays, err := Months(daily, april, way)
				if err != nil || len(pays) != 1 || pays[0].Cents != c.want[way] {
					t.Errorf("%v, way %d: %v, %v; want %d", daily, way, pays, err, c.want[way])
				}
			}
		}
	}
}

func TestP110AtTheBounds(t *testing.T) {
	for _, cents := range []int{api.MaxCoin, -api.MaxCoin} {
		for _, way := range allWays {
			pays, err := Months(each(maxDays, cents), must(t, "2026-01-01"), way)
			// 4000 days are 10 years, 2 of which have a day more, 11 months, and 13 days.
			if err != nil || len(pays) != 132 {
				t.Fatal(len(pays), err)
			}
			for _, p := range pays[:131] {
				if p.Cents != cents {
					t.Errorf("%v: %d; want %d", p, p.Cents, cents)
				}
			}
		}
	}
	for _, c := range []struct {
		daily []int
		from  int
		want  string
	}{
		{[]int{31}, 1, "[{1 2 1}]"},
		{[]int{31}, api.MaxDay, "[{3652059 3652060 1}]"},
		{each(32, 30), api.MaxDay - 31, "[{3652028 3652029 1} {3652029 3652060 30}]"},
	} {
		pays, err := Months(c.daily, c.from, api.Down)
		if got := fmt.Sprint(pays); got != c.want || err != nil {
			t.Errorf("%v from %d on: %s, %v; want %s", c.daily, c.from, got, err, c.want)
		}
	}
}

func TestP110Errors(t *testing.T) {
	great := api.MaxCoin + 1
	for _, c := range []struct {
		daily     []int
		from, way int
		want      error
	}{
		{[]int{1}, 5, -1, api.ErrKind}, {[]int{1}, 5, 6, api.ErrKind}, {nil, 5, math.MaxInt, api.ErrKind}, {[]int{1}, 5, math.MinInt, api.ErrKind},
		{each(maxDays+1, 0), 5, 0, api.ErrBound}, {each(maxDays, 0), 5, 0, nil},
		{[]int{1, 1}, api.MaxDay, 0, api.ErrDay}, {each(maxDays, 1), api.MaxDay - maxDays + 2, 0, api.ErrDay}, {each(maxDays, 1), api.MaxDay - maxDays + 1, 0, nil},
		{[]int{1, 1, 1}, -1, 0, api.ErrDay},
		{[]int{great}, 5, 0, api.ErrCoin}, {[]int{-great}, 5, 0, api.ErrCoin}, {[]int{math.MaxInt}, 5, 0, api.ErrCoin}, {[]int{math.MinInt}, 5, 0, api.ErrCoin},
		{[]int{1, 2, great}, 5, 0, api.ErrCoin}, {append(each(100, 0), -great), 5, 0, api.ErrCoin}, {[]int{great, -great}, 5, 0, api.ErrCoin},
		// The first that is so.
		{each(maxDays+1, great), 0, 9, api.ErrKind}, {each(maxDays+1, great), 0, 5, api.ErrBound}, {[]int{great}, 0, 5, api.ErrDay},
	} {
		pays, err := Months(c.daily, c.from, c.way)
		if err != c.want || (err != nil) != (pays == nil) {
			t.Errorf("%d days from %d on, way %d: %v, %v; want %v", len(c.daily), c.from, c.way, len(pays), err, c.want)
		}
	}
	for _, from := range noDays {
		if pays, err := Months([]int{1}, from, 0); pays != nil || err != api.ErrDay {
			t.Errorf("from %d on: %v, %v", from, pays, err)
		}
		// There is no day that is none where there are no days.
		if pays, err := Months(nil, from, 0); pays != nil || err != nil {
			t.Errorf("nothing from %d on: %v, %v", from, pays, err)
		}
	}
}

func TestP110DaysOfAMonthStandTogether(t *testing.T) {
	r := rand.New(rand.NewSource(110))
	for range 300 {
		daily := make([]int, r.Intn(200))
		for i := range daily {
			daily[i] = r.Intn(2001) - 1000
		}
		from := 1 + r.Intn(api.MaxDay-200)
		var want []Pay
		sum, length := 0, 0
		for i, cents := range daily {
			year, month, date := day.Parts(from + i)
			if i == 0 || date == 1 {
				want = append(want, Pay{From: from + i})
				sum, length = 0, 28
				for length < 31 {
					if _, err := day.Of(year, month, length+1); err != nil {
						break
					}
					length++
				}
			}
			sum += cents
			last := &want[len(want)-1]
			last.To, last.Cents = from+i+1, sum/length
		}
		if got, err := Months(daily, from, api.Down); err != nil || !slices.Equal(got, want) {
			t.Fatalf("%v from %d on: %v, %v; want %v", daily, from, got, err, want)
		}
	}
}

func TestP4MonthsReadsAndAnswersAnew(t *testing.T) {
	daily := []int{310, 620, 280}
	first, _ := Months(daily, 31, api.Down)
	if !slices.Equal(daily, []int{310, 620, 280}) {
		t.Error("what was handed over was changed:", daily)
	}
	want := slices.Clone(first)
	first[0] = Pay{}
	if again, _ := Months(daily, 31, api.Down); !slices.Equal(again, want) {
		t.Errorf("%v; want %v", again, want)
	}
}
