package script

import (
	"cmp"
	"strings"

	"statute/api"
)

// Bounds of a label's parts, in bytes.
const (
	maxStem     = 4
	maxCapitals = 2
)

// label is what a label is made of.
type label struct {
	letters  bool // whether the stem is of letters
	stem     string
	capitals string
}

// Less: whether a label stands ahead of another one.
func Less(a, b string) bool {
	x, first := readLabel(a)
	y, second := readLabel(b)
	return first && second && ahead(x, y)
}

// ahead tells whether a label stands ahead of another one. Numbers don't begin with 0: the shorter one is the lesser one.
func ahead(x, y label) bool {
	if x.letters != y.letters {
		return y.letters
	}
	return cmp.Or(shorterFirst(x.stem, y.stem), shorterFirst(x.capitals, y.capitals)) < 0
}

// shorterFirst holds two texts against each other, by their lengths, then as texts.
func shorterFirst(a, b string) int {
	return cmp.Or(cmp.Compare(len(a), len(b)), strings.Compare(a, b))
}

// readLabel is the label of a text; false: it is none.
func readLabel(text string) (label, bool) {
	stem := strings.TrimRightFunc(text, isCapital)
	x := label{stem: stem, capitals: text[len(stem):]}
	if stem == "" || len(stem) > maxStem || len(x.capitals) > maxCapitals {
		return label{}, false
	}
	if strings.TrimFunc(stem, isDigit) == "" {
		return x, stem[0] != '0'
	}
	x.letters = true
	return x, strings.TrimFunc(stem, isSmall) == ""
}

// IsLabel tells whether a text is a label.
func IsLabel(text string) bool {
	_, ok := readLabel(text)
	return ok
}

func isDigit(r rune) bool   { return '0' <= r && r <= '9' }
func isSmall(r rune) bool   { return 'a' <= r && r <= 'z' }
func isCapital(r rune) bool { return 'A' <= r && r <= 'Z' }

// IsLine tells whether a text is a line, a heading, a title.
func IsLine(text string) bool {
	return len(text) <= api.MaxLine && isPlain(text) && strings.Trim(text, " ") == text
}

// isPlain tells whether all bytes of a text are such as lines have.
func isPlain(text string) bool {
	return !strings.ContainsFunc(text, func(r rune) bool { return r < ' ' || r > '~' })
}
