package duties

import (
	"math"
	"math/rand"
	"reflect"
	"slices"
	"strings"
	"testing"

	"statute/api"
	"statute/day"
)

var noDays = []int{0, -1, math.MinInt, api.MaxDay + 1, math.MaxInt}

func done(on int, name, who string) Event { return Event{Day: on, Name: name, Who: who} }

func waived(on int, name, who string) Event { return Event{Day: on, Name: name, Who: who, Waive: true} }

func checkStates(t *testing.T, l []Duty, events []Event, c *day.Calendar, on int, want []State) {
	t.Helper()
	got, err := States(l, events, c, on)
	if err != nil || !slices.Equal(got, want) {
		t.Errorf("States(%+v, %+v, %+v, %d):\n%+v, %v; want\n%+v", l, events, c, on, got, err, want)
	}
}

func checkNext(t *testing.T, l []Duty, events []Event, c *day.Calendar, on, want int) {
	t.Helper()
	if got, err := Next(l, events, c, on); got != want || err != nil {
		t.Errorf("Next(%+v, %+v, %+v, %d): %d, %v; want %d", l, events, c, on, got, err, want)
	}
}

func checkWrong(t *testing.T, l []Duty, events []Event, c *day.Calendar, on int, want error) {
	t.Helper()
	states, err := States(l, events, c, on)
	if states != nil || err != want {
		t.Errorf("States(%+v, %+v, %d): %v, %v; want %v", l, events, on, states, err, want)
	}
	next, err := Next(l, events, c, on)
	if next != 0 || err != want {
		t.Errorf("Next(%+v, %+v, %d): %d, %v; want %v", l, events, on, next, err, want)
	}
}

func TestP120AStateIsThatOfTheDay(t *testing.T) {
	pay := Duty{Name: "pay", Who: "ann", From: 10, By: 20}
	for _, x := range []struct {
		events    []Event
		on        int
		state, at int
	}{
		{nil, 10, api.Due, 10},
		{nil, 20, api.Due, 10},
		{nil, 21, api.Broken, 21},
		{nil, 99, api.Broken, 21},
		{nil, api.MaxDay, api.Broken, 21},
		{[]Event{done(10, "pay", "ann")}, 10, api.Met, 10},
		{[]Event{done(20, "pay", "ann")}, 20, api.Met, 20},
		{[]Event{done(20, "pay", "ann")}, 19, api.Due, 10},
		{[]Event{done(19, "pay", "ann"), done(12, "pay", "ann"), done(15, "pay", "ann")}, 30, api.Met, 12},
		{[]Event{done(9, "pay", "ann")}, 15, api.Due, 10},
		{[]Event{done(9, "pay", "ann"), done(18, "pay", "ann")}, 18, api.Met, 18},
		{[]Event{done(9, "pay", "ann")}, 21, api.Broken, 21},
		{[]Event{done(21, "pay", "ann")}, 21, api.Late, 21},
		{[]Event{done(25, "pay", "ann"), done(23, "pay", "ann")}, 30, api.Late, 23},
		{[]Event{done(25, "pay", "ann")}, 24, api.Broken, 21},
		{[]Event{done(25, "pay", "ann"), done(14, "pay", "ann")}, 30, api.Met, 14},
		{[]Event{waived(10, "pay", "ann")}, 10, api.Waived, 10},
		{[]Event{waived(9, "pay", "ann")}, 15, api.Due, 10},
		{[]Event{waived(17, "pay", "ann"), waived(15, "pay", "ann")}, 30, api.Waived, 15},
		{[]Event{waived(17, "pay", "ann")}, 16, api.Due, 10},
		{[]Event{waived(25, "pay", "ann")}, 30, api.Waived, 25},
		{[]Event{waived(25, "pay", "ann")}, 24, api.Broken, 21},
		{[]Event{done(15, "pay", "ann"), waived(14, "pay", "ann")}, 30, api.Waived, 14},
		{[]Event{done(15, "pay", "ann"), waived(15, "pay", "ann")}, 30, api.Waived, 15},
		{[]Event{done(15, "pay", "ann"), waived(16, "pay", "ann")}, 30, api.Met, 15},
		{[]Event{done(15, "pay", "ann"), waived(16, "pay", "ann"), done(17, "pay", "ann")}, 30, api.Met, 15},
		{[]Event{done(25, "pay", "ann"), waived(25, "pay", "ann")}, 30, api.Waived, 25},
		{[]Event{done(25, "pay", "ann"), waived(26, "pay", "ann")}, 30, api.Late, 25},
		{[]Event{done(9, "pay", "ann"), waived(16, "pay", "ann")}, 30, api.Waived, 16},
		{[]Event{waived(9, "pay", "ann"), done(16, "pay", "ann")}, 30, api.Met, 16},
		{[]Event{done(15, "pay", "bob"), done(15, "pays", "ann"), waived(15, "pay", ""), waived(15, "", "ann")}, 30, api.Broken, 21},
	} {
		checkStates(t, []Duty{pay}, x.events, nil, x.on, []State{{Duty: pay, State: x.state, Day: x.at, Of: -1}})
	}
	checkStates(t, []Duty{pay}, []Event{done(15, "pay", "ann")}, nil, 9, nil)
	checkStates(t, nil, []Event{done(15, "pay", "ann")}, nil, 9, nil)
	checkStates(t, nil, nil, nil, 1, nil)
}

func TestP120DutiesStandAsTheyCame(t *testing.T) {
	l := []Duty{
		{Name: "c", Who: "x", From: 5, By: 5},
		{Name: "a", Who: "x", From: 9, By: 12},
		{Name: "b", Who: "y", From: 3, By: 30},
		{Name: "c", Who: "x", From: 5, By: 5},
		{From: 1, By: 1},
	}
	events := []Event{done(4, "b", "y"), done(6, "c", "x"), done(1, "", "")}
	checkStates(t, l, events, nil, 8, []State{
		{Duty: l[0], State: api.Late, Day: 6, Of: -1},
		{Duty: l[2], State: api.Met, Day: 4, Of: -1},
		{Duty: l[3], State: api.Late, Day: 6, Of: -1},
		{Duty: l[4], State: api.Met, Day: 1, Of: -1},
	})
}

func TestP120WhatIsBrokenHasAnotherDutyInstead(t *testing.T) {
	pay := Duty{Name: "pay", Who: "ann", From: 10, By: 20, Else: "fine", Term: day.Term{N: 5}}
	fine := Duty{Name: "fine", Who: "ann", From: 21, By: 26}
	for _, x := range []struct {
		events        []Event
		on            int
		state, at     int
		fineState, of int // of: the fine's day; 0: there is none
	}{
		{nil, 20, api.Due, 10, 0, 0},
		{nil, 21, api.Broken, 21, api.Due, 21},
		{nil, 26, api.Broken, 21, api.Due, 21},
		{nil, 27, api.Broken, 21, api.Broken, 27},
		{[]Event{done(21, "fine", "ann")}, 30, api.Broken, 21, api.Met, 21},
		{[]Event{done(20, "fine", "ann")}, 22, api.Broken, 21, api.Due, 21},
		{[]Event{done(26, "fine", "ann")}, 30, api.Broken, 21, api.Met, 26},
		{[]Event{done(27, "fine", "ann")}, 30, api.Broken, 21, api.Late, 27},
		{[]Event{done(27, "fine", "ann")}, 26, api.Broken, 21, api.Due, 21},
		{[]Event{waived(25, "fine", "ann")}, 30, api.Broken, 21, api.Waived, 25},
		{[]Event{done(22, "fine", "bob")}, 30, api.Broken, 21, api.Broken, 27},
		{[]Event{done(21, "pay", "ann")}, 21, api.Late, 21, api.Due, 21},
		{[]Event{done(28, "pay", "ann")}, 28, api.Late, 28, api.Broken, 27},
		{[]Event{done(20, "pay", "ann")}, 30, api.Met, 20, 0, 0},
		{[]Event{waived(20, "pay", "ann")}, 30, api.Waived, 20, 0, 0},
		{[]Event{waived(24, "pay", "ann")}, 30, api.Waived, 24, 0, 0},
		{[]Event{waived(24, "pay", "ann")}, 23, api.Broken, 21, api.Due, 21},
	} {
		want := []State{{Duty: pay, State: x.state, Day: x.at, Of: -1}}
		if x.of != 0 {
			want = append(want, State{Duty: fine, State: x.fineState, Day: x.of, Of: 0})
		}
		checkStates(t, []Duty{pay}, x.events, nil, x.on, want)
	}
}

func TestP120WhatStandsForOthersStandsBehindAll(t *testing.T) {
	term := day.Term{N: 2}
	l := []Duty{
		{Name: "later", Who: "x", From: 50, By: 60, Else: "z", Term: term},
		{Name: "a", Who: "x", From: 1, By: 9, Else: "y", Term: term},
		{Name: "b", Who: "y", From: 1, By: 40, Else: "y", Term: term},
		{Name: "c", Who: "z", From: 1, By: 5, Else: "c", Term: day.Term{N: 1, Unit: api.Weeks}},
		{Name: "d", Who: "z", From: 1, By: 5},
	}
	events := []Event{done(8, "c", "z"), done(11, "y", "x")}
	checkStates(t, l, events, nil, 20, []State{
		{Duty: l[1], State: api.Broken, Day: 10, Of: -1},
		{Duty: l[2], State: api.Due, Day: 1, Of: -1},
		{Duty: l[3], State: api.Late, Day: 8, Of: -1},
		{Duty: l[4], State: api.Broken, Day: 6, Of: -1},
		{Duty: Duty{Name: "y", Who: "x", From: 10, By: 12}, State: api.Met, Day: 11, Of: 0},
		// One event is for both: what was done late, and what was to be done instead, as they have one name.
		{Duty: Duty{Name: "c", Who: "z", From: 6, By: 13}, State: api.Met, Day: 8, Of: 2},
	})
}

func TestP120TheTermIsThatOfTheCalendar(t *testing.T) {
	weekend := &day.Calendar{Off: [7]bool{5: true, 6: true}, Holidays: []int{24, 22}}
	for _, x := range []struct {
		c    *day.Calendar
		by   int
		term day.Term
		want int
	}{
		{nil, 19, day.Term{}, 20},
		{nil, 19, day.Term{N: 5, Unit: api.Working, Roll: api.Next}, 25},
		{nil, 19, day.Term{N: 2, Unit: api.Weeks}, 34},
		{nil, 30, day.Term{N: 1, Unit: api.Months}, 59},
		{nil, 30, day.Term{N: 1, Unit: api.Years}, 396},
		{weekend, 19, day.Term{}, 20},
		{weekend, 19, day.Term{Roll: api.Next}, 23},
		{weekend, 19, day.Term{N: 1, Unit: api.Working}, 23},
		{weekend, 19, day.Term{N: 2, Unit: api.Working}, 25},
		{weekend, 20, day.Term{N: 3, Roll: api.Next}, 25},
		{weekend, 20, day.Term{N: 3, Roll: api.Before}, 23},
	} {
		l := []Duty{{Name: "a", From: 1, By: x.by, Else: "b", Term: x.term}}
		checkStates(t, l, nil, x.c, x.by+1, []State{
			{Duty: l[0], State: api.Broken, Day: x.by + 1, Of: -1},
			{Duty: Duty{Name: "b", From: x.by + 1, By: x.want}, State: api.Due, Day: x.by + 1, Of: 0},
		})
	}
	// Days 20 and 21 are off: what is to be done at once, by the working day ahead, is broken from the first.
	l := []Duty{{Name: "a", From: 1, By: 20, Else: "b", Term: day.Term{Roll: api.Before}}}
	instead := Duty{Name: "b", From: 21, By: 19}
	checkStates(t, l, nil, weekend, 21, []State{{Duty: l[0], State: api.Broken, Day: 21, Of: -1}, {Duty: instead, State: api.Broken, Day: 20, Of: 0}})
	checkStates(t, l, []Event{done(21, "b", "")}, weekend, 21, []State{{Duty: l[0], State: api.Broken, Day: 21, Of: -1}, {Duty: instead, State: api.Late, Day: 21, Of: 0}})
	checkNext(t, l, nil, weekend, 19, 21)
	checkNext(t, l, nil, weekend, 21, 0)
}

func TestP120TheLastDays(t *testing.T) {
	last := Duty{Name: "a", From: api.MaxDay, By: api.MaxDay}
	checkStates(t, []Duty{last}, nil, nil, api.MaxDay, []State{{Duty: last, State: api.Due, Day: api.MaxDay, Of: -1}})
	checkNext(t, []Duty{last}, nil, nil, api.MaxDay-1, api.MaxDay)
	checkNext(t, []Duty{last}, nil, nil, api.MaxDay, 0)

	ahead := Duty{Name: "a", From: 1, By: api.MaxDay - 1, Else: "b"}
	checkStates(t, []Duty{ahead}, nil, nil, api.MaxDay, []State{
		{Duty: ahead, State: api.Broken, Day: api.MaxDay, Of: -1},
		{Duty: Duty{Name: "b", From: api.MaxDay, By: api.MaxDay}, State: api.Due, Day: api.MaxDay, Of: 0},
	})
	checkNext(t, []Duty{ahead}, nil, nil, 1, api.MaxDay)
	checkNext(t, []Duty{ahead}, nil, nil, api.MaxDay, 0)
	ahead.Term.N = 1
	checkWrong(t, []Duty{ahead}, nil, nil, 1, api.ErrDay)
	// Behind the last day of all there is none on which something else could begin.
	last.Else = "b"
	checkWrong(t, []Duty{last}, nil, nil, 1, api.ErrDay)
}

func TestP120WhatIsWrong(t *testing.T) {
	right := Duty{Name: "a", Who: "x", From: 3, By: 3}
	tooMany := slices.Repeat([]Duty{right}, api.MaxDuties+1)
	tooOften := slices.Repeat([]Event{{Day: 4}}, api.MaxSteps+1)
	tooLong := Duty{From: 9, By: 9, Else: "b", Term: day.Term{N: api.MaxTerm + 1}}
	ofNoKind := Duty{From: 9, By: 9, Else: "b", Term: day.Term{Unit: api.Years + 1}}
	ofNoRoll := Duty{From: 9, By: 9, Else: "b", Term: day.Term{Roll: -1}}
	ofNoDay := Duty{From: 9, By: 9, Else: "b", Term: day.Term{N: 9999, Unit: api.Years}}
	for _, x := range []struct {
		l      []Duty
		events []Event
		on     int
		want   error
	}{
		{tooMany, nil, 5, api.ErrBound},
		{nil, tooOften, 5, api.ErrBound},
		{tooMany, nil, 0, api.ErrBound},
		{make([]Duty, api.MaxDuties+1), nil, 5, api.ErrBound},
		{nil, make([]Event, api.MaxSteps+1), 5, api.ErrBound},
		{[]Duty{{From: 5, By: 4}}, tooOften, 5, api.ErrBound},
		{[]Duty{right, {From: 5, By: 4}}, nil, 5, api.ErrDay},
		{[]Duty{right, {From: 50, By: 49}}, nil, 5, api.ErrDay},
		{[]Duty{tooLong}, nil, 5, api.ErrBound},
		{[]Duty{{From: 9, By: 9, Else: "b", Term: day.Term{N: -1}}}, nil, 5, api.ErrBound},
		{[]Duty{ofNoKind}, nil, 5, api.ErrKind},
		{[]Duty{ofNoRoll}, nil, 5, api.ErrKind},
		{[]Duty{ofNoDay}, nil, 5, api.ErrDay},
		{[]Duty{right, ofNoKind, tooLong}, nil, 5, api.ErrKind},
		{[]Duty{right, tooLong, ofNoKind}, nil, 5, api.ErrBound},
		{[]Duty{ofNoDay, tooLong, ofNoKind}, nil, 5, api.ErrDay},
		{[]Duty{tooLong, {From: 5, By: 4}}, nil, 5, api.ErrDay},
		{[]Duty{tooLong}, []Event{{Day: 0}}, 5, api.ErrDay},
		{[]Duty{tooLong}, nil, 0, api.ErrDay},
	} {
		checkWrong(t, x.l, x.events, nil, x.on, x.want)
	}
	for _, n := range noDays {
		checkWrong(t, []Duty{right}, nil, nil, n, api.ErrDay)
		checkWrong(t, nil, nil, nil, n, api.ErrDay)
		checkWrong(t, []Duty{right, {From: n, By: 5}}, nil, nil, 5, api.ErrDay)
		checkWrong(t, []Duty{right, {From: 5, By: n}}, nil, nil, 5, api.ErrDay)
		checkWrong(t, []Duty{right}, []Event{{Day: 3}, {Day: n}}, nil, 5, api.ErrDay)
	}
	allOff := &day.Calendar{Off: [7]bool{true, true, true, true, true, true, true}}
	checkWrong(t, []Duty{{From: 1, By: 1, Else: "b", Term: day.Term{Roll: api.Next}}}, nil, allOff, 1, api.ErrDay)
	checkWrong(t, []Duty{{From: 1, By: 1, Else: "b", Term: day.Term{N: 1, Unit: api.Working}}}, nil, allOff, 1, api.ErrDay)
}

func TestP120ATermIsAskedForWhereThereIsAnElse(t *testing.T) {
	wrong := []day.Term{{N: -1}, {Unit: 9}, {Roll: 9}, {N: 9999, Unit: api.Years}}
	for _, term := range wrong {
		d := Duty{Name: "a", From: 5, By: 9, Term: term}
		checkStates(t, []Duty{d}, nil, nil, 10, []State{{Duty: d, State: api.Broken, Day: 10, Of: -1}})
		checkNext(t, []Duty{d}, nil, nil, 5, 10)
	}
	// Also where it is not needed: one that is met, one that is not there yet.
	for _, from := range []int{5, 50} {
		d := Duty{Name: "a", From: from, By: 60, Else: "b", Term: day.Term{Unit: 9}}
		checkWrong(t, []Duty{d}, []Event{done(5, "a", "")}, nil, 10, api.ErrKind)
	}
}

func TestP120AsManyAsThereMayBe(t *testing.T) {
	name := strings.Repeat("n", 1<<12)
	d := Duty{Name: name, Who: name, From: 1, By: 2, Else: name, Term: day.Term{N: 3, Unit: api.Working, Roll: api.Next}}
	events := slices.Repeat([]Event{{Day: 3, Name: name + "m", Who: name}}, api.MaxSteps)
	c := &day.Calendar{}
	for n := api.MaxDay; n > 9; n-- {
		c.Holidays = append(c.Holidays, n)
	}
	l := slices.Repeat([]Duty{d}, api.MaxDuties)
	got, err := States(l, events, c, 5)
	if err != nil || len(got) != 2*api.MaxDuties {
		t.Fatalf("%d states, %v", len(got), err)
	}
	for i, s := range got {
		want := State{Duty: d, State: api.Broken, Day: 3, Of: -1}
		if i >= api.MaxDuties {
			want = State{Duty: Duty{Name: name, Who: name, From: 3, By: 6}, State: api.Due, Day: 3, Of: i - api.MaxDuties}
		}
		if s != want {
			t.Fatalf("state %d: State %d, Day %d, Of %d", i, s.State, s.Day, s.Of)
		}
	}
	if n, err := Next(l, events, c, 5); n != 7 || err != nil {
		t.Errorf("Next: %d, %v", n, err)
	}
}

func TestP121NextIsWhenTimeMakesAnother(t *testing.T) {
	pay := Duty{Name: "pay", Who: "ann", From: 10, By: 20, Else: "fine", Term: day.Term{N: 5}}
	plain := Duty{Name: "tell", Who: "bob", From: 15, By: 15}
	at := func(on int, name string) []Event { return []Event{done(on, name, "ann")} }
	off := func(on int, name string) []Event { return []Event{waived(on, name, "ann")} }
	for _, x := range []struct {
		l        []Duty
		events   []Event
		on, want int
	}{
		{nil, nil, 1, 0},
		{[]Duty{pay}, nil, 1, 10},
		{[]Duty{pay}, nil, 9, 10},
		{[]Duty{pay}, nil, 10, 21},
		{[]Duty{pay}, nil, 20, 21},
		{[]Duty{pay}, nil, 21, 27},
		{[]Duty{pay}, nil, 26, 27},
		{[]Duty{pay}, nil, 27, 0},
		{[]Duty{pay}, nil, api.MaxDay, 0},
		{[]Duty{plain}, nil, 15, 16},
		{[]Duty{plain}, nil, 16, 0},
		{[]Duty{pay, plain}, nil, 10, 15},
		{[]Duty{plain, pay}, nil, 10, 15},
		{[]Duty{pay, plain}, nil, 15, 16},
		{[]Duty{pay, plain}, nil, 16, 21},
		{[]Duty{pay}, at(12, "pay"), 12, 0},
		{[]Duty{pay}, at(12, "pay"), 11, 21}, // what is done behind the day is not looked at
		{[]Duty{pay}, off(12, "pay"), 12, 0},
		{[]Duty{pay}, off(12, "pay"), 11, 21},
		{[]Duty{pay}, at(9, "pay"), 9, 10},
		{[]Duty{pay}, at(9, "pay"), 15, 21},
		{[]Duty{pay}, at(22, "pay"), 22, 27},
		{[]Duty{pay}, at(22, "pay"), 21, 27},
		{[]Duty{pay}, at(30, "pay"), 30, 0},
		{[]Duty{pay}, off(22, "pay"), 22, 0},
		{[]Duty{pay}, at(23, "fine"), 23, 0},
		{[]Duty{pay}, at(23, "fine"), 22, 27},
		{[]Duty{pay}, at(20, "fine"), 21, 27},
		{[]Duty{pay}, off(21, "fine"), 21, 0},
	} {
		checkNext(t, x.l, x.events, nil, x.on, x.want)
	}
}

// dayByDay is the state of a duty by what P120 says, from its From on, each day by itself.
func dayByDay(d Duty, events []Event, on, of int) State {
	s := State{Duty: d, State: api.Due, Day: d.From, Of: of}
	is := func(n int, waive bool) bool {
		return slices.Contains(events, Event{Day: n, Name: d.Name, Who: d.Who, Waive: waive})
	}
	for n := d.From; n <= on; n++ {
		if is(n, true) {
			s.State, s.Day = api.Waived, n
			return s
		}
		if is(n, false) {
			s.State, s.Day = api.Late, n
			if n <= d.By {
				s.State = api.Met
			}
			return s
		}
		if n > d.By {
			s.State, s.Day = api.Broken, d.By+1
		}
	}
	return s
}

func statesDayByDay(l []Duty, events []Event, c *day.Calendar, on int) []State {
	var own []State
	for _, d := range l {
		if d.From <= on {
			own = append(own, dayByDay(d, events, on, -1))
		}
	}
	all := slices.Clone(own)
	for i, s := range own {
		d := s.Duty
		if d.Else == "" || s.State != api.Broken && s.State != api.Late {
			continue
		}
		by, err := c.Due(d.By+1, d.Term)
		if err != nil {
			panic(err)
		}
		all = append(all, dayByDay(Duty{Name: d.Else, Who: d.Who, From: d.By + 1, By: by}, events, on, i))
	}
	return all
}

// nextDayByDay looks at each day, as far as something may become another.
func nextDayByDay(l []Duty, events []Event, c *day.Calendar, on, end int) int {
	known := slices.DeleteFunc(slices.Clone(events), func(e Event) bool { return e.Day > on })
	ahead := statesDayByDay(l, known, c, on)
	for n := on + 1; n <= end; n++ {
		now := statesDayByDay(l, known, c, n)
		if !slices.Equal(now, ahead) {
			return n
		}
		ahead = now
	}
	return 0
}

func someDuties(r *rand.Rand) []Duty {
	names, people := []string{"a", "b", "c"}, []string{"x", "y"}
	var l []Duty
	for range r.Intn(6) {
		d := Duty{Name: names[r.Intn(3)], Who: people[r.Intn(2)], From: 1 + r.Intn(25)}
		d.By = d.From + r.Intn(12)
		d.Term = day.Term{N: r.Intn(6), Unit: r.Intn(3), Roll: r.Intn(3)}
		if r.Intn(3) > 0 {
			d.Else = names[r.Intn(3)]
		}
		l = append(l, d)
	}
	return l
}

func someEvents(r *rand.Rand) []Event {
	names, people := []string{"a", "b", "c"}, []string{"x", "y"}
	var l []Event
	for range r.Intn(8) {
		l = append(l, Event{Day: 1 + r.Intn(50), Name: names[r.Intn(3)], Who: people[r.Intn(2)], Waive: r.Intn(4) == 0})
	}
	return l
}

func someCalendar(r *rand.Rand) *day.Calendar {
	if r.Intn(4) == 0 {
		return nil
	}
	c := &day.Calendar{Off: [7]bool{0: r.Intn(3) == 0, 3: r.Intn(3) == 0, 5: r.Intn(2) == 0}}
	for range r.Intn(20) {
		c.Holidays = append(c.Holidays, r.Intn(60))
	}
	return c
}

func TestP120AndP121GoDayByDay(t *testing.T) {
	r := rand.New(rand.NewSource(120))
	for range 4000 {
		l, events, c, on := someDuties(r), someEvents(r), someCalendar(r), 1+r.Intn(60)
		if slices.ContainsFunc(l, func(d Duty) bool { _, err := c.Due(d.By+1, d.Term); return err != nil }) {
			continue
		}
		known := slices.DeleteFunc(slices.Clone(events), func(e Event) bool { return e.Day > on })
		checkStates(t, l, events, c, on, statesDayByDay(l, known, c, on))
		checkNext(t, l, events, c, on, nextDayByDay(l, events, c, on, 120))
		if t.Failed() {
			return
		}
	}
}

func TestP4WhatIsHandedOverIsOnlyRead(t *testing.T) {
	make3 := func() ([]Duty, []Event, *day.Calendar) {
		l := []Duty{{Name: "a", Who: "x", From: 9, By: 12}, {Name: "b", Who: "x", From: 2, By: 4, Else: "c", Term: day.Term{N: 2, Unit: api.Working}}}
		return l, []Event{done(40, "a", "x"), done(11, "a", "x"), waived(3, "c", "x")}, &day.Calendar{Holidays: []int{9, 7, 7, 5}}
	}
	l, events, c := make3()
	first, err := States(l, events, c, 15)
	if err != nil {
		t.Fatal(err)
	}
	if _, err := Next(l, events, c, 15); err != nil {
		t.Fatal(err)
	}
	wantL, wantEvents, wantC := make3()
	if !slices.Equal(l, wantL) || !slices.Equal(events, wantEvents) || !reflect.DeepEqual(c, wantC) {
		t.Errorf("changed: %+v, %+v, %+v", l, events, c)
	}
	was := slices.Clone(first)
	clear(l)
	clear(events)
	clear(c.Holidays)
	if !slices.Equal(first, was) {
		t.Errorf("what was answered shows a later change: %+v", first)
	}
	clear(first)
	checkStates(t, wantL, wantEvents, wantC, 15, was)
}
