package day

import (
	"slices"
	"sort"

	"statute/api"
)

// Calendar: which days are off.
type Calendar struct {
	Off      [7]bool
	Holidays []int
}

// Works: a working day.
func (c *Calendar) Works(day int) bool {
	if !IsDay(day) {
		return false
	}
	return c == nil || !c.Off[Week(day)] && !slices.Contains(c.Holidays, day)
}

// Roll a day to a working one.
func (c *Calendar) Roll(day, how int) (int, error) { return roll(day, how, c.plan) }

// roll does what Roll does; the plan is asked for only where it counts, as it may cost a sort.
func roll(day, how int, ready func() plan) (int, error) {
	if !isRoll(how) {
		return 0, api.ErrKind
	}
	if !IsDay(day) {
		return 0, api.ErrDay
	}
	switch how {
	case api.Next:
		return ready().later(day, 1)
	case api.Before:
		return ready().earlier(day, 1)
	}
	return day, nil
}

// Add working days.
func (c *Calendar) Add(day, n int) (int, error) { return add(day, n, c.plan) }

// add does what Add does; the plan is asked for only where it counts.
func add(day, n int, ready func() plan) (int, error) {
	if n < -api.MaxTerm || n > api.MaxTerm {
		return 0, api.ErrBound
	}
	if !IsDay(day) {
		return 0, api.ErrDay
	}
	if n > 0 {
		return ready().later(day+1, n)
	}
	if n < 0 {
		return ready().earlier(day-1, -n)
	}
	return day, nil
}

// Count working days.
func (c *Calendar) Count(from, to int) int {
	if to < from {
		return -c.Count(to, from)
	}
	from, to = max(from, 1), min(to, api.MaxDay+1)
	if to <= from {
		return 0
	}
	return c.plan().count(from, to)
}

// plan is a calendar made ready to be counted: its holidays are days that would else be working, each once, in order.
type plan struct {
	off      [7]bool
	week     int // how many days of a week are not off
	holidays []int
}

// plan of a calendar; a nil one has no days off.
func (c *Calendar) plan() plan {
	if c == nil {
		return plan{week: daysOfWeek}
	}
	p := plan{off: c.Off}
	// Beside a week that is all off no holiday counts: none need be sorted.
	if p.off == [7]bool{true, true, true, true, true, true, true} {
		return p
	}
	for _, off := range p.off {
		if !off {
			p.week++
		}
	}
	for _, day := range c.Holidays {
		if IsDay(day) && !p.off[Week(day)] {
			p.holidays = append(p.holidays, day)
		}
	}
	slices.Sort(p.holidays)
	p.holidays = slices.Compact(p.holidays)
	return p
}

// count is how many days from a day on, ahead of another that is not ahead of it, are working.
func (p plan) count(from, to int) int {
	weeks := (to - from) / daysOfWeek
	n := weeks * p.week
	for day := from + weeks*daysOfWeek; day < to; day++ {
		if !p.off[Week(day)] {
			n++
		}
	}
	return n - p.holidaysAhead(to) + p.holidaysAhead(from)
}

// holidaysAhead is how many holidays lie ahead of a day.
func (p plan) holidaysAhead(day int) int {
	n, _ := slices.BinarySearch(p.holidays, day)
	return n
}

// later is the n-th working day from a day on (n above 0).
func (p plan) later(from, n int) (int, error) {
	days := api.MaxDay + 1 - from
	steps := sort.Search(days, func(i int) bool { return p.count(from, from+i+1) >= n })
	if steps == days {
		return 0, api.ErrDay
	}
	return from + steps, nil
}

// earlier is the n-th working day up to a day, counted from it (n above 0).
func (p plan) earlier(upTo, n int) (int, error) {
	steps := sort.Search(upTo, func(i int) bool { return p.count(upTo-i, upTo+1) >= n })
	if steps == upTo {
		return 0, api.ErrDay
	}
	return upTo - steps, nil
}

func isRoll(how int) bool { return api.Stay <= how && how <= api.Before }
