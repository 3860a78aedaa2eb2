package cases

import (
	"slices"

	"statute/api"
	"statute/day"
	"statute/order"
	"statute/terms"
)

// Valid plan?
func Valid(p Plan) error {
	switch {
	case len(p.Moves) > api.MaxRules || len(p.stages()) > api.MaxRules:
		return api.ErrBound
	case p.hasNoWord() || p.hasTwice():
		return api.ErrName
	case slices.ContainsFunc(p.Moves, p.isWrong):
		return api.ErrKind
	case p.hasRing():
		return api.ErrOrder
	}
	return p.termError()
}

// termError is what is wrong with the first term that is no term.
func (p Plan) termError() error {
	var noDaysOff *day.Calendar
	for _, m := range p.Moves {
		if _, err := noDaysOff.Due(1, m.Within); err != nil {
			return err
		}
	}
	return nil
}

// stages of a plan, each with a number of its own, from 0 on.
func (p Plan) stages() map[string]int {
	numbers := map[string]int{}
	add := func(stage string) {
		if _, ok := numbers[stage]; !ok {
			numbers[stage] = len(numbers)
		}
	}
	add(p.Start)
	for _, stage := range p.Final {
		add(stage)
	}
	for _, m := range p.Moves {
		add(m.From)
		add(m.To)
	}
	return numbers
}

// hasNoWord tells whether a name of a plan is no word.
func (p Plan) hasNoWord() bool {
	isNoWord := func(name string) bool { return !terms.IsWord(name) }
	return isNoWord(p.Start) || slices.ContainsFunc(p.Final, isNoWord) || slices.ContainsFunc(p.Moves, func(m Move) bool {
		return isNoWord(m.Name) || isNoWord(m.From) || isNoWord(m.To) || isNoWord(m.Who)
	})
}

// hasTwice tells whether two moves have one name and one From.
func (p Plan) hasTwice() bool {
	for i, m := range p.Moves {
		if slices.ContainsFunc(p.Moves[:i], func(other Move) bool { return other.Name == m.Name && other.From == m.From }) {
			return true
		}
	}
	return false
}

// isWrong tells whether a move goes on from a final stage, or may be done less than never.
func (p Plan) isWrong(m Move) bool { return m.Most < 0 || slices.Contains(p.Final, m.From) }

// hasRing tells whether a case could go round without an end: by moves that may be done any number of times.
func (p Plan) hasRing() bool {
	numbers := p.stages()
	var free [][2]int
	for _, m := range p.Moves {
		if m.Most == 0 {
			free = append(free, [2]int{numbers[m.From], numbers[m.To]})
		}
	}
	_, ok := order.Of(len(numbers), free)
	return !ok
}
