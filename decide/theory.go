package decide

import (
	"slices"
	"strings"

	"statute/api"
	"statute/facts"
	"statute/reason"
)

// pathMark stands between two labels of a path.
const pathMark = "/"

// open a case: the desk for it, and its theory.
func open(l api.Item, f *facts.File, c Case) (*desk, reason.Theory, error) {
	d, err := deskFor(l, f, c)
	if err != nil {
		return nil, reason.Theory{}, err
	}
	t := reason.Theory{Names: len(d.names)}
	if t.Rules, err = d.rules(); err != nil {
		return nil, reason.Theory{}, err
	}
	// Pairs are as many as rules times rules: without bounds there may be no end of them.
	if err := reason.Valid(t); err != nil {
		return nil, reason.Theory{}, err
	}
	t.Over = d.over(t.Rules)
	return d, t, reason.Valid(t)
}

// rules of the theory; the desk keeps of which sentences they are.
func (d *desk) rules() ([]reason.Rule, error) {
	var rules []reason.Rule
	for i, p := range d.sentences {
		s := p.Sentence
		if s.Kind != ruleKind {
			continue
		}
		body, holds, err := d.condition(p)
		if err != nil {
			return nil, err
		}
		if holds {
			rules = append(rules, reason.Rule{Kind: s.Strength, Head: d.literalOf(s.Head, s.Positive), Body: body})
			d.from = append(d.from, i)
		}
	}
	return rules, nil
}

// over are the pairs of rules of which the first is above the second.
func (d *desk) over(rules []reason.Rule) [][2]int {
	said := d.said()
	above := closed(said)
	var pairs [][2]int
	for i := range rules {
		for j := range rules {
			isDeeper := !above[i][j] && !above[j][i] && areRivals(rules[i], rules[j]) && liesIn(d.pathOf(i), d.pathOf(j))
			if said[i][j] || isDeeper {
				pairs = append(pairs, [2]int{i, j})
			}
		}
	}
	return pairs
}

// said tells of which rules sentences say that they are above which.
func (d *desk) said() [][]bool {
	said := make([][]bool, len(d.from))
	for i := range said {
		said[i] = make([]bool, len(d.from))
		over := d.sentences[d.from[i]].Sentence.Over
		for j := range said {
			said[i][j] = slices.Contains(over, d.sentences[d.from[j]].Sentence.Name)
		}
	}
	return said
}

// closed tells of which rules are above which by way of others or not.
func closed(said [][]bool) [][]bool {
	above := make([][]bool, len(said))
	for i := range said {
		above[i] = slices.Clone(said[i])
	}
	for by := range above {
		for i := range above {
			for j := range above {
				above[i][j] = above[i][j] || above[i][by] && above[by][j]
			}
		}
	}
	return above
}

// areRivals tells whether of two rules the one whose provision lies in the other's is above it, if nothing else is said.
func areRivals(a, b reason.Rule) bool {
	return a.Head == -b.Head && a.Kind == api.Defeasible && b.Kind == api.Defeasible
}

// pathOf the provision of a rule.
func (d *desk) pathOf(rule int) string { return d.sentences[d.from[rule]].Path }

// liesIn tells whether the provision at a path lies in another one.
func liesIn(path, outer string) bool {
	if outer == "" {
		return path != ""
	}
	return strings.HasPrefix(path, outer+pathMark)
}
