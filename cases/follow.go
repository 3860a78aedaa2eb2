package cases

import (
	"slices"

	"statute/api"
	"statute/reason"
)

// Ruling of an earlier case.
type Ruling struct {
	Head int
	Body []int
	Rank int
}

// Follow rulings: a rule more for each.
func Follow(t reason.Theory, l []Ruling) (reason.Theory, error) {
	if err := reason.Valid(t); err != nil {
		return reason.Theory{}, err
	}
	// So many are told by Valid, too, but not ahead of going through all pairs of them.
	if len(l) > api.MaxRules {
		return reason.Theory{}, api.ErrBound
	}
	all := reason.Theory{Names: t.Names, Over: slices.Clone(t.Over)}
	for _, r := range t.Rules {
		all.Rules = append(all.Rules, reason.Rule{Kind: r.Kind, Head: r.Head, Body: slices.Clone(r.Body)})
	}
	for i, r := range l {
		all.Rules = append(all.Rules, reason.Rule{Kind: api.Defeasible, Head: r.Head, Body: slices.Clone(r.Body)})
		all.Over = append(all.Over, above(t.Rules, l, i)...)
	}
	if err := reason.Valid(all); err != nil {
		return reason.Theory{}, err
	}
	return all, nil
}

// above are the pairs of the rule of a ruling, which stands behind all rules of a theory, and those that it is above.
func above(rules []reason.Rule, l []Ruling, ruling int) [][2]int {
	var pairs [][2]int
	own := len(rules) + ruling
	for i, r := range rules {
		if areOpposite(r.Head, l[ruling].Head) {
			pairs = append(pairs, [2]int{own, i})
		}
	}
	for i, r := range l {
		if areOpposite(r.Head, l[ruling].Head) && (r.Rank < l[ruling].Rank || r.Rank == l[ruling].Rank && i < ruling) {
			pairs = append(pairs, [2]int{own, len(rules) + i})
		}
	}
	return pairs
}

// areOpposite tells whether one literal is the opposite of another; a number that is its own is no literal.
func areOpposite(a, b int) bool { return a == -b && a != b }
