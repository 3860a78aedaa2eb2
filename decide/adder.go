package decide

import (
	"slices"

	"statute/api"
	"statute/order"
	"statute/reason"
	"statute/terms"
)

// adder adds amounts at a desk.
type adder struct {
	*desk
	known   reason.Known
	entries []entry
	at      map[string]int // the numbers of entries, by their names
}

// entry of an amount: its sentences, and what they come to together.
type entry struct {
	name      string
	sentences []int
	cents     int
	err       error
}

// adderAt a desk, by what follows of its theory.
func adderAt(d *desk, known reason.Known) *adder {
	a := &adder{desk: d, known: known, at: map[string]int{}}
	for i, name := range a.each(amountKind, func(s terms.Sentence) string { return s.Name }) {
		a.at[name] = i
		a.entries = append(a.entries, entry{name: name})
	}
	for i, p := range a.sentences {
		if p.Sentence.Kind == amountKind {
			e := &a.entries[a.at[p.Sentence.Name]]
			e.sentences = append(e.sentences, i)
		}
	}
	return a
}

// amounts, by their names.
func (a *adder) amounts() ([]Amount, error) {
	all, ok := order.Of(len(a.entries), a.pairs())
	if !ok {
		return nil, api.ErrOrder
	}
	// Whatever an amount hangs on comes ahead of it, with its error: so each error is told where it stands, however long the way to it is.
	for _, i := range all {
		e := &a.entries[i]
		e.cents, e.err = a.together(e.sentences)
	}
	var amounts []Amount
	for _, e := range a.entries {
		if e.err != nil {
			return nil, e.err
		}
		amounts = append(amounts, Amount{e.name, e.cents})
	}
	return amounts, nil
}

// pairs of amounts of which the second hangs on the first.
func (a *adder) pairs() [][2]int {
	var pairs [][2]int
	for i, e := range a.entries {
		for _, s := range e.sentences {
			for _, name := range addNames(nil, a.sentences[s].Sentence.Sum) {
				if of, is := a.at[name]; is {
					pairs = append(pairs, [2]int{of, i})
				}
			}
		}
	}
	return pairs
}

// addNames that a sum speaks of to others. In `total` they are names of others' facts.
func addNames(names []string, n terms.Node) []string {
	switch n.Kind {
	case nameKind:
		return append(names, n.Word)
	case totalKind:
		return names
	}
	for _, kid := range n.Kids {
		names = addNames(names, kid)
	}
	return names
}

// together is what those of an amount's sentences that hold come to.
func (a *adder) together(sentences []int) (int, error) {
	sum := 0
	for _, i := range sentences {
		cents, err := a.worth(a.sentences[i])
		if err != nil {
			return 0, err
		}
		sum += cents
	}
	if sum < -api.MaxCoin || sum > api.MaxCoin {
		return 0, api.ErrCoin
	}
	return sum, nil
}

// worth of a sentence: 0, if it does not hold.
func (a *adder) worth(p terms.Placed) (int, error) {
	literals, holds, err := a.condition(p)
	if err != nil || !holds || slices.ContainsFunc(literals, a.isNotShown) {
		return 0, err
	}
	return a.view.SumBy(p.Sentence.Sum, a.Who, p.Sentence.Way, a.valueOf)
}

// isNotShown tells whether a literal does not hold.
func (a *adder) isNotShown(literal int) bool { return a.known.Holds[reason.Place(literal)] != api.Yes }

// valueOf a name: of an amount what it comes to, else what the file says.
func (a *adder) valueOf(name string) (int, error) {
	if i, is := a.at[name]; is {
		return a.entries[i].cents, a.entries[i].err
	}
	return a.view.Value(a.Who, name), nil
}
