package amend

import (
	"cmp"
	"slices"

	"statute/api"
	"statute/script"
)

// Between two laws: changes that make the second one of the first.
func Between(a, b api.Item) ([]api.Op, error) {
	if err := script.Valid(a); err != nil {
		return nil, err
	}
	if err := script.Valid(b); err != nil {
		return nil, err
	}
	ops := fewest(a, b, api.MaxOps)
	if len(ops) > api.MaxOps {
		return nil, api.ErrBound
	}
	return ops, nil
}

// fewest changes that were found; only if they are more than so many, it is searched for long.
func fewest(a, b api.Item, most int) []api.Op {
	// At worst all goes, and all comes.
	n := numbers{}
	from, to := n.tree(a, nil), n.tree(b, nil)
	couple(from, to)
	best, _ := changes(from.all(nil), to.all(nil))
	var views []*view
	for _, g := range guesses() {
		v := newView(n.tree(a, nil), n.tree(b, nil), g)
		v.ops = best
		v.pairInside(v.from[0], v.to[0])
		v.trial = v.weigh()
		v.take(v.trial)
		views = append(views, v)
	}
	slices.SortStableFunc(views, func(v, w *view) int { return cmp.Compare(len(v.ops), len(w.ops)) })
	best = views[0].ops
	tries := maxTries
	for _, v := range views {
		if len(best) <= most {
			break
		}
		tries = v.search(most, tries)
		if len(v.ops) < len(best) {
			best = v.ops
		}
	}
	return best
}
