package terms

import (
	"slices"

	"statute/api"
)

// Words of the grammar. Those of conditions and sums are the kinds of their nodes, too.
const (
	define   = "define"
	rule     = "rule"
	amount   = "amount"
	duty     = "duty"
	ifWord   = "if"
	over     = "over"
	round    = "round"
	within   = "within"
	elseWord = "else"
	or       = "or"
	and      = "and"
	not      = "not"
	some     = "some"
	every    = "every"
	count    = "count"
	total    = "total"
	of       = "of"
	maximum  = "max"
	minimum  = "min"
)

// Kinds of nodes that no word or sign of the grammar tells.
const (
	nameKind   = "name"
	numberKind = "number"
)

// Signs.
const (
	colon         = ":"
	comma         = ","
	semicolon     = ";"
	opening       = "("
	closing       = ")"
	squareOpening = "["
	squareClosing = "]"
	less          = "<"
	atMost        = "<="
	equal         = "="
	unequal       = "<>"
	atLeast       = ">="
	greater       = ">"
	plus          = "+"
	minus         = "-"
	times         = "*"
	percent       = "%"
)

// What is in no token, or within one.
const (
	blank = " "
	point = "."
)

// isOrder tells whether a sign says how two sums stand to each other.
func isOrder(text string) bool {
	switch text {
	case less, atMost, equal, unequal, atLeast, greater:
		return true
	}
	return false
}

// isOfSums tells whether a sign stands between two parts of a sum, or behind one.
func isOfSums(text string) bool { return text == plus || text == minus || text == times }

// waysOfRounding are the words of api's ways.
func waysOfRounding() []string {
	return []string{api.Down: "down", api.Up: "up", api.Floor: "floor", api.Ceil: "ceil", api.HalfUp: "half_up", api.HalfEven: "half_even"}
}

// unitsOfTerms are the words of api's units.
func unitsOfTerms() []string {
	return []string{api.Days: "days", api.Working: "working", api.Weeks: "weeks", api.Months: "months", api.Years: "years"}
}

// rollsOfTerms are the words of api's rolls; Stay has none.
func rollsOfTerms() []string { return []string{api.Next: "next", api.Before: "before"} }

// strengthsOfRules are the words of api's kinds of rules; Defeasible has none.
func strengthsOfRules() []string { return []string{api.Strict: "strict", api.Defeater: "defeater"} }

// isOfGrammar tells whether a word is one of the grammar, and so no name.
func isOfGrammar(text string) bool {
	switch text {
	case define, rule, amount, duty, ifWord, over, round, within, elseWord:
		return true
	case or, and, not, some, every, count, total, of, maximum, minimum:
		return true
	}
	for _, words := range [][]string{waysOfRounding(), unitsOfTerms(), rollsOfTerms(), strengthsOfRules()} {
		if slices.Contains(words, text) {
			return true
		}
	}
	return false
}
