package reason

import (
	"slices"

	"statute/api"
	"statute/order"
)

// maxPairs is how many pairs of rules a theory has at most.
const maxPairs = 10 * api.MaxRules

// Valid theory?
func Valid(t Theory) error {
	// Each looks only at what those ahead of it have found to be right.
	switch {
	case !t.isInBounds():
		return api.ErrBound
	case slices.ContainsFunc(t.Rules, hasNoKind):
		return api.ErrKind
	case !t.hasNames():
		return api.ErrName
	case !t.isOrdered():
		return api.ErrOrder
	}
	return nil
}

func (t Theory) isInBounds() bool {
	if t.Names < 0 || t.Names > api.MaxNames || len(t.Rules) > api.MaxRules || len(t.Over) > maxPairs {
		return false
	}
	return !slices.ContainsFunc(t.Rules, func(r Rule) bool { return len(r.Body) > api.MaxNames })
}

func hasNoKind(r Rule) bool {
	return r.Kind != api.Strict && r.Kind != api.Defeasible && r.Kind != api.Defeater
}

// hasNames tells whether all literals, and all numbers of rules, are some of the theory's.
func (t Theory) hasNames() bool {
	noRule := func(i int) bool { return i < 0 || i >= len(t.Rules) }
	for _, r := range t.Rules {
		if t.hasNot(r.Head) || slices.ContainsFunc(r.Body, t.hasNot) {
			return false
		}
	}
	return !slices.ContainsFunc(t.Over, func(pair [2]int) bool { return noRule(pair[0]) || noRule(pair[1]) })
}

// hasNot tells whether a number is none of the theory's literals.
func (t Theory) hasNot(literal int) bool {
	return literal == none || literal < -t.Names || literal > t.Names
}

// isOrdered tells whether no rule is above itself.
func (t Theory) isOrdered() bool {
	_, ok := order.Of(len(t.Rules), t.Over)
	return ok
}
