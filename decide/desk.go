package decide

import (
	"slices"

	"statute/api"
	"statute/day"
	"statute/facts"
	"statute/terms"
)

// Kinds of sentences.
const (
	ruleKind   = "rule"
	amountKind = "amount"
)

// Kinds of nodes.
const (
	noneKind  = "" // of a condition that there is not
	andKind   = "and"
	notKind   = "not"
	nameKind  = "name"
	totalKind = "total"
)

// noLiteral is the number of none.
const noLiteral = 0

// desk at which a case is looked at, by a law and a file.
type desk struct {
	Case
	sentences []terms.Placed
	scope     *terms.Scope
	view      *facts.View
	names     []string       // of the theory
	numbers   map[string]int // their literals
	from      []int          // of which sentences the theory's rules are
}

// deskFor a case.
func deskFor(l api.Item, f *facts.File, c Case) (*desk, error) {
	switch {
	case !facts.IsPerson(c.Who):
		return nil, api.ErrKind
	case !day.IsDay(c.On) || !day.IsDay(c.Known):
		return nil, api.ErrDay
	}
	sentences, _ := terms.All(l)
	d := &desk{Case: c, sentences: sentences, scope: terms.ScopeOf(sentences), view: f.View(c.On, c.Known), numbers: map[string]int{}}
	d.names = d.each(ruleKind, func(s terms.Sentence) string { return s.Head })
	for i, name := range d.names {
		d.numbers[name] = i + 1
	}
	return d, nil
}

// each of the texts that sentences of a kind have, once, rising.
func (d *desk) each(kind string, text func(s terms.Sentence) string) []string {
	var texts []string
	for _, p := range d.sentences {
		if p.Sentence.Kind == kind {
			texts = append(texts, text(p.Sentence))
		}
	}
	slices.Sort(texts)
	return slices.Compact(texts)
}

// condition looks at a sentence's condition: what of the theory's literals it asks for, and whether all else that it asks for holds.
func (d *desk) condition(p terms.Placed) (literals []int, holds bool, err error) {
	opened, err := d.scope.Opened(p.Path, p.Sentence.If)
	if err != nil {
		return nil, false, err
	}
	holds = true
	for _, part := range addParts(nil, opened) {
		if q := d.literal(part); q != noLiteral {
			literals = append(literals, q)
			continue
		}
		is, err := d.view.Holds(part, d.Who)
		if err != nil {
			return nil, false, err
		}
		holds = holds && is
	}
	return literals, holds, nil
}

// addParts of a condition, between its outermost `and`s, to others.
func addParts(parts []terms.Node, n terms.Node) []terms.Node {
	switch n.Kind {
	case noneKind:
		return parts
	case andKind:
		for _, kid := range n.Kids {
			parts = addParts(parts, kid)
		}
		return parts
	}
	return append(parts, n)
}

// literal of the theory that a part of a condition is.
func (d *desk) literal(part terms.Node) int {
	positive := part.Kind != notKind
	if !positive {
		part = part.Kids[0]
	}
	if part.Kind != nameKind {
		return noLiteral
	}
	return d.literalOf(part.Word, positive)
}

// literalOf a name, or its opposite; none, if the theory has no such name.
func (d *desk) literalOf(name string, positive bool) int {
	if !positive {
		return -d.numbers[name]
	}
	return d.numbers[name]
}
