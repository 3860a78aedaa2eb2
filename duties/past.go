package duties

import "statute/api"

// past is what was done and let off up to a day.
type past struct {
	events []Event
	on     int
}

// pastOf a day: what comes behind it is not known on it.
func pastOf(events []Event, on int) past {
	p := past{on: on}
	for _, e := range events {
		if e.Day <= on {
			p.events = append(p.events, e)
		}
	}
	return p
}

// state of a duty that there is on the day; of: the number of the state for which it stands.
func (p past) state(d Duty, of int) State {
	s := State{Duty: d, Of: of}
	done, wasDone := p.first(d, false)
	off, wasOff := p.first(d, true)
	switch {
	case wasOff && (!wasDone || off <= done):
		s.State, s.Day = api.Waived, off
	case wasDone && done <= d.By:
		s.State, s.Day = api.Met, done
	case wasDone:
		s.State, s.Day = api.Late, done
	case d.By < p.on:
		s.State, s.Day = api.Broken, d.By+1
	default:
		s.State, s.Day = api.Due, d.From
	}
	return s
}

// first is the first day on which a duty was let off (waive), or done, since there is such a duty.
func (p past) first(d Duty, waive bool) (int, bool) {
	first, found := 0, false
	for _, e := range p.events {
		if e.Waive != waive || e.Name != d.Name || e.Who != d.Who || e.Day < d.From {
			continue
		}
		if !found || e.Day < first {
			first, found = e.Day, true
		}
	}
	return first, found
}
