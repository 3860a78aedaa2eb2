package terms

import (
	"strings"

	"statute/api"
)

// Kinds of tokens.
const (
	noToken = iota
	aWord
	aNumber
	aSign
	theEnd // of the line
)

// maxDigits is how many digits a number may have ahead of its point.
const maxDigits = 12

// token of a line, and where it begins.
type token struct {
	kind int
	text string
	at   int
}

// tokensOf a line; the last one is its end.
func tokensOf(line string) []token {
	var list []token
	for at := 0; at < len(line); {
		if line[at:at+1] == blank {
			at++
			continue
		}
		t := tokenAt(line, at)
		list = append(list, t)
		at += len(t.text)
	}
	return append(list, token{kind: theEnd, at: len(line)})
}

// tokenAt is the longest token that begins at a byte.
func tokenAt(line string, at int) token {
	rest := line[at:]
	switch {
	case isLetter(rest[0]):
		return token{aWord, rest[:countAhead(rest, isInner)], at}
	case isDigit(rest[0]):
		return token{aNumber, rest[:numberEnd(rest)], at}
	}
	if size := signSize(rest); size > 0 {
		return token{aSign, rest[:size], at}
	}
	return token{noToken, rest[:1], at}
}

// numberEnd is where the number with which a text begins is over.
func numberEnd(text string) int {
	whole := countAhead(text, isDigit)
	cents := text[whole:]
	if strings.HasPrefix(cents, point) && countAhead(cents[1:], isDigit) >= 2 {
		return whole + 3
	}
	return whole
}

// signSize is how many bytes the sign has with which a text begins; 0: it begins with none.
func signSize(text string) int {
	if len(text) > 1 {
		switch text[:2] {
		case atMost, unequal, atLeast:
			return 2
		}
	}
	switch text[:1] {
	case colon, comma, semicolon, opening, closing, squareOpening, squareClosing, less, equal, greater, plus, minus, times, percent:
		return 1
	}
	return 0
}

// countAhead is how many bytes stand ahead of the first one that does not fit.
func countAhead(text string, fits func(b byte) bool) int {
	for i := range len(text) {
		if !fits(text[i]) {
			return i
		}
	}
	return len(text)
}

func isLetter(b byte) bool { return 'a' <= b && b <= 'z' }
func isDigit(b byte) bool  { return '0' <= b && b <= '9' }
func isInner(b byte) bool  { return isLetter(b) || isDigit(b) || b == '_' }

// IsWord tells whether a text is a word: one that a name could be, if it is none of the grammar.
func IsWord(text string) bool {
	return text != "" && len(text) <= api.MaxWord && isLetter(text[0]) && countAhead(text, isInner) == len(text)
}

// isName tells whether a token is a word that can be a name, but for its length.
func (t token) isName() bool { return t.kind == aWord && !isOfGrammar(t.text) }

// isLong tells whether a number has more digits than one may have.
func (t token) isLong() bool {
	whole, _, _ := strings.Cut(t.text, point)
	return len(whole) > maxDigits
}

// hasPoint tells whether a number is an amount with cents.
func (t token) hasPoint() bool { return strings.Contains(t.text, point) }

// hundredths of a number that is not too long.
func (t token) hundredths() int {
	whole, cents, _ := strings.Cut(t.text, point)
	return 100*worth(whole) + worth(cents)
}

// worth is the number that digits make.
func worth(digits string) int {
	n := 0
	for _, d := range digits {
		n = 10*n + int(d-'0')
	}
	return n
}
