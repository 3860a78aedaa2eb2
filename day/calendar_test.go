package day

import (
	"math"
	"math/rand"
	"slices"
	"testing"

	"statute/api"
)

var allOff = [7]bool{true, true, true, true, true, true, true}

// works is what P22 says a working day is, word by word.
func works(c *Calendar, day int) bool {
	if day < 1 || day > api.MaxDay {
		return false
	}
	for _, h := range c.Holidays {
		if h == day {
			return false
		}
	}
	return !c.Off[(day-1)%7]
}

// walk is the n-th working day that is met from a day, one step behind or ahead each time; 0: there is none.
func walk(c *Calendar, day, step, n int) int {
	for ; day >= 1 && day <= api.MaxDay; day += step {
		if works(c, day) {
			n--
		}
		if n == 0 {
			return day
		}
	}
	return 0
}

// someCalendar has days off and holidays around a day.
func someCalendar(r *rand.Rand, around int) *Calendar {
	c := &Calendar{}
	for i := range c.Off {
		c.Off[i] = r.Intn(3) == 0
	}
	for range r.Intn(40) {
		c.Holidays = append(c.Holidays, around-30+r.Intn(60))
	}
	return c
}

// someDay is often near to an end.
func someDay(r *rand.Rand) int {
	switch r.Intn(3) {
	case 0:
		return 1 + r.Intn(40)
	case 1:
		return api.MaxDay - r.Intn(40)
	}
	return 1 + r.Intn(api.MaxDay)
}

func checkDay(t *testing.T, what string, c *Calendar, day, k, n int, err error, want int) {
	t.Helper()
	var wantErr error
	if want == 0 {
		wantErr = api.ErrDay
	}
	if n != want || err != wantErr {
		t.Fatalf("%s(%d, %d) of %+v: %d, %v; want %d, %v", what, day, k, c, n, err, want, wantErr)
	}
}

func TestP22Works(t *testing.T) {
	c := &Calendar{Off: [7]bool{5: true, 6: true}, Holidays: []int{17, 3, 3, 0, -9, math.MinInt, api.MaxDay + 1, 6}}
	for day, want := range map[int]bool{1: true, 2: true, 3: false, 4: true, 5: true, 6: false, 7: false, 8: true, 13: false, 14: false, 17: false, 18: true} {
		if got := c.Works(day); got != want {
			t.Errorf("Works(%d): %v", day, got)
		}
	}
	for _, day := range noDays {
		if c.Works(day) || (&Calendar{}).Works(day) || (*Calendar)(nil).Works(day) {
			t.Errorf("Works(%d)", day)
		}
	}
	if none := (&Calendar{Off: allOff}); none.Works(1) || none.Works(api.MaxDay) {
		t.Error("a week that is all off works")
	}
	if all := (&Calendar{}); !all.Works(1) || !all.Works(7) || !all.Works(api.MaxDay) {
		t.Error("a calendar without days off does not work")
	}
}

func TestP22RollAddAndCountGoDayByDay(t *testing.T) {
	r := rand.New(rand.NewSource(22))
	for range 3000 {
		day := someDay(r)
		c := someCalendar(r, day)
		if got := c.Works(day); got != works(c, day) {
			t.Fatalf("Works(%d) of %+v: %v", day, c, got)
		}
		if c.Off == allOff {
			continue
		}
		n, err := c.Roll(day, api.Next)
		checkDay(t, "Roll next", c, day, 0, n, err, walk(c, day, 1, 1))
		n, err = c.Roll(day, api.Before)
		checkDay(t, "Roll before", c, day, 0, n, err, walk(c, day, -1, 1))
		n, err = c.Roll(day, api.Stay)
		checkDay(t, "Roll stay", c, day, 0, n, err, day)
		k := 1 + r.Intn(60)
		n, err = c.Add(day, k)
		checkDay(t, "Add", c, day, k, n, err, walk(c, day+1, 1, k))
		n, err = c.Add(day, -k)
		checkDay(t, "Add", c, day, -k, n, err, walk(c, day-1, -1, k))
		n, err = c.Add(day, 0)
		checkDay(t, "Add", c, day, 0, n, err, day)
		to, want := day+r.Intn(80), 0
		for d := day; d < to; d++ {
			if works(c, d) {
				want++
			}
		}
		if got := c.Count(day, to); got != want {
			t.Fatalf("Count(%d, %d) of %+v: %d; want %d", day, to, c, got, want)
		}
		if got := c.Count(to, day); got != -want {
			t.Fatalf("Count(%d, %d) of %+v: %d; want %d", to, day, c, got, -want)
		}
	}
}

func TestP22RollTellsWhatIsWrong(t *testing.T) {
	c := &Calendar{Off: [7]bool{5: true, 6: true}}
	for _, how := range []int{-1, 3, math.MaxInt, math.MinInt} {
		for _, day := range append([]int{1, 6}, noDays...) {
			n, err := c.Roll(day, how)
			checkBare(t, []int{day, how}, n, err, api.ErrKind)
		}
	}
	for _, how := range []int{api.Stay, api.Next, api.Before} {
		for _, day := range noDays {
			n, err := c.Roll(day, how)
			checkBare(t, []int{day, how}, n, err, api.ErrDay)
		}
	}
	none := &Calendar{Off: allOff}
	for _, how := range []int{api.Next, api.Before} {
		n, err := none.Roll(1000, how)
		checkBare(t, how, n, err, api.ErrDay)
	}
	if n, err := none.Roll(1000, api.Stay); n != 1000 || err != nil {
		t.Errorf("Roll stay of a day that is off: %d, %v", n, err)
	}
}

func TestP22RollGoesUpToTheEnds(t *testing.T) {
	c := &Calendar{Holidays: []int{2, 3, api.MaxDay, api.MaxDay - 2}}
	if n, err := c.Roll(3, api.Before); n != 1 || err != nil {
		t.Errorf("up to day 1: %d, %v", n, err)
	}
	if n, err := c.Roll(api.MaxDay-2, api.Next); n != api.MaxDay-1 || err != nil {
		t.Errorf("up to MaxDay: %d, %v", n, err)
	}
	n, err := c.Roll(api.MaxDay, api.Next)
	checkBare(t, "behind MaxDay", n, err, api.ErrDay)
	c.Holidays = append(c.Holidays, 1)
	n, err = c.Roll(3, api.Before)
	checkBare(t, "ahead of day 1", n, err, api.ErrDay)
	// The last day is a Friday: of a week with one working day, the next may be none.
	monday := &Calendar{Off: [7]bool{false, true, true, true, true, true, true}}
	n, err = monday.Roll(api.MaxDay-3, api.Next)
	checkBare(t, "no Monday", n, err, api.ErrDay)
	if n, err := monday.Roll(7, api.Before); n != 1 || err != nil {
		t.Errorf("the first Monday: %d, %v", n, err)
	}
}

func TestP22AddTellsWhatIsWrong(t *testing.T) {
	c := &Calendar{}
	for _, n := range []int{api.MaxTerm + 1, -api.MaxTerm - 1, math.MaxInt, math.MinInt} {
		for _, day := range append([]int{1}, noDays...) {
			got, err := c.Add(day, n)
			checkBare(t, []int{day, n}, got, err, api.ErrBound)
		}
	}
	for _, day := range noDays {
		for _, n := range []int{-api.MaxTerm, -1, 0, 1, api.MaxTerm} {
			got, err := c.Add(day, n)
			checkBare(t, []int{day, n}, got, err, api.ErrDay)
		}
	}
	for _, x := range [][2]int{{1, -1}, {api.MaxDay, 1}, {5, -5}, {api.MaxDay - 5, 6}, {api.MaxTerm, -api.MaxTerm}} {
		got, err := c.Add(x[0], x[1])
		checkBare(t, x, got, err, api.ErrDay)
	}
	none := &Calendar{Off: allOff}
	for _, n := range []int{1, -1} {
		got, err := none.Add(1000, n)
		checkBare(t, n, got, err, api.ErrDay)
	}
	if n, err := none.Add(1000, 0); n != 1000 || err != nil {
		t.Errorf("Add 0 to a day that is off: %d, %v", n, err)
	}
}

func TestP22AddGoesFar(t *testing.T) {
	c := &Calendar{Off: [7]bool{5: true, 6: true}}
	start := 500001
	for _, n := range []int{api.MaxTerm, -api.MaxTerm} {
		step := n / api.MaxTerm
		got, err := c.Add(start, n)
		checkDay(t, "Add", c, start, n, got, err, walk(c, start+step, step, api.MaxTerm))
	}
	if n, err := (&Calendar{}).Add(1, api.MaxTerm); n != api.MaxTerm+1 || err != nil {
		t.Errorf("Add(1, MaxTerm): %d, %v", n, err)
	}
	if n, err := (&Calendar{}).Add(api.MaxTerm+1, -api.MaxTerm); n != 1 || err != nil {
		t.Errorf("Add(MaxTerm+1, -MaxTerm): %d, %v", n, err)
	}
}

func TestP22CountLeavesOutWhatIsNoDay(t *testing.T) {
	c := &Calendar{Holidays: []int{2, 2, api.MaxDay, 0, api.MaxDay + 1}}
	all := api.MaxDay - 2
	for _, x := range [][3]int{
		{1, 1, 0}, {1, 2, 1}, {2, 3, 0}, {-5, 4, 2}, {0, 1, 0}, {-5, 1, 0}, {-5, -3, 0}, {math.MinInt, 0, 0},
		{api.MaxDay - 1, api.MaxDay, 1}, {api.MaxDay - 1, api.MaxDay + 1, 1}, {api.MaxDay - 2, math.MaxInt, 2}, {api.MaxDay + 1, math.MaxInt, 0}, {api.MaxDay, api.MaxDay + 5, 0},
		{math.MinInt, math.MaxInt, all}, {1, api.MaxDay + 1, all}, {0, api.MaxDay + 1, all},
	} {
		if got := c.Count(x[0], x[1]); got != x[2] {
			t.Errorf("Count(%d, %d): %d; want %d", x[0], x[1], got, x[2])
		}
		if got := c.Count(x[1], x[0]); got != -x[2] {
			t.Errorf("Count(%d, %d): %d; want %d", x[1], x[0], got, -x[2])
		}
	}
	if got := (&Calendar{}).Count(0, math.MaxInt); got != api.MaxDay {
		t.Errorf("all days: %d", got)
	}
	if got := (&Calendar{Off: allOff, Holidays: []int{4, 5}}).Count(1, api.MaxDay); got != 0 {
		t.Errorf("of a week that is all off: %d", got)
	}
}

func TestP22ManyHolidaysEnd(t *testing.T) {
	c := &Calendar{Off: [7]bool{6: true}}
	for day := api.MaxDay; day > 1; day-- {
		c.Holidays = append(c.Holidays, day)
	}
	n, err := c.Roll(2, api.Next)
	checkBare(t, "all are holidays", n, err, api.ErrDay)
	if n, err := c.Roll(api.MaxDay, api.Before); n != 1 || err != nil {
		t.Errorf("the one working day: %d, %v", n, err)
	}
	if n := c.Count(1, api.MaxDay); n != 1 {
		t.Errorf("Count: %d", n)
	}
}

func TestP1ANilCalendarHasNoDaysOff(t *testing.T) {
	var c *Calendar
	if !c.Works(6) || c.Count(1, 11) != 10 {
		t.Error("Works, Count")
	}
	n, err := c.Roll(6, api.Next)
	m, err2 := c.Add(6, 2)
	k, err3 := c.Due(6, Term{N: 1, Unit: api.Working, Roll: api.Before})
	if n != 6 || m != 8 || k != 7 || err != nil || err2 != nil || err3 != nil {
		t.Error(n, m, k, err, err2, err3)
	}
}

func TestP4HolidaysAreOnlyReadAndAreReadEachTime(t *testing.T) {
	c := &Calendar{Holidays: []int{9, 3, 9, 0, 5}}
	before := slices.Clone(c.Holidays)
	if n, _ := c.Roll(3, api.Next); n != 4 {
		t.Errorf("Roll: %d", n)
	}
	c.Add(3, 2)
	c.Count(1, 20)
	c.Works(5)
	c.Due(3, Term{N: 2, Unit: api.Working, Roll: api.Before})
	if !slices.Equal(c.Holidays, before) {
		t.Errorf("the holidays are now %v", c.Holidays)
	}
	c.Holidays[0] = 4
	if n, _ := c.Roll(3, api.Next); n != 6 {
		t.Errorf("Roll, with other holidays: %d", n)
	}
}
