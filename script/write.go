package script

import (
	"strings"

	"statute/api"
)

// What stands in the form of a law.
const (
	lawWord  = "law"
	lineMark = "|"
	indent   = "  "
	textMark = " "
	lineEnd  = "\n"
)

// Write a law.
func Write(l api.Item) (string, error) {
	if err := Valid(l); err != nil {
		return "", err
	}
	var p page
	p.row(0, lawWord, l.Head)
	p.content(l, 0)
	if p.Len() > api.MaxText {
		return "", api.ErrBound
	}
	return p.String(), nil
}

// page is the form of a law, as far as it is written.
type page struct {
	strings.Builder
}

// content writes an item's lines and kids, which have so many provisions around them.
func (p *page) content(it api.Item, around int) {
	for _, line := range it.Lines {
		p.row(around, lineMark, line)
	}
	for _, kid := range it.Kids {
		p.row(around, kid.Label, kid.Head)
		p.content(kid, around+1)
	}
}

// row writes one line of the form: what it begins with, and its text, if it has one.
func (p *page) row(around int, first, text string) {
	for range around {
		p.WriteString(indent)
	}
	p.WriteString(first)
	if text != "" {
		p.WriteString(textMark)
		p.WriteString(text)
	}
	p.WriteString(lineEnd)
}
