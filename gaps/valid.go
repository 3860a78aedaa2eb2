package gaps

import (
	"slices"

	"statute/api"
	"statute/script"
	"statute/terms"
)

// Words of a table's text that are no names in it.
const (
	thenName = "then"
	noneName = "none"
)

// Valid table?
func Valid(t Table) error {
	switch {
	case isTooGreat(t):
		return api.ErrBound
	case hasWrongNames(t.Questions):
		return api.ErrName
	case hasWrongNumbers(t):
		return api.ErrKind
	case slices.ContainsFunc(t.Rows, isOutOfOrder):
		return api.ErrOrder
	case slices.ContainsFunc(t.Rows, saysNoLine):
		return api.ErrText
	}
	return nil
}

func isTooGreat(t Table) bool {
	hasTooMany := func(q Question) bool { return len(q.Answers) > api.MaxCells }
	return len(t.Questions) > api.MaxCells || len(t.Rows) > api.MaxRows || slices.ContainsFunc(t.Questions, hasTooMany)
}

// hasWrongNames tells whether a question or an answer has a name that is none, or that one ahead has.
func hasWrongNames(questions []Question) bool {
	var names []string
	for _, q := range questions {
		if !areNames(q.Answers) || slices.Contains(q.Answers, noneName) {
			return true
		}
		names = append(names, q.Name)
	}
	return !areNames(names)
}

// areNames tells whether all are names, and no two of them the same.
func areNames(names []string) bool {
	for i, name := range names {
		if !terms.IsWord(name) || name == thenName || slices.Contains(names[:i], name) {
			return false
		}
	}
	return true
}

// hasWrongNumbers tells whether a question has no answers, a row too many or too few cells, or a cell a number of no answer.
func hasWrongNumbers(t Table) bool {
	hasNone := func(q Question) bool { return len(q.Answers) == 0 }
	return slices.ContainsFunc(t.Questions, hasNone) || slices.ContainsFunc(t.Rows, func(r Row) bool {
		return len(r.Cells) != len(t.Questions) || hasNumberOfNone(r, t.Questions)
	})
}

func hasNumberOfNone(r Row, questions []Question) bool {
	for i, q := range questions {
		if slices.ContainsFunc(r.Cells[i], func(n int) bool { return !q.has(n) }) {
			return true
		}
	}
	return false
}

// isOutOfOrder tells whether the numbers of a cell do not rise strictly.
func isOutOfOrder(r Row) bool {
	return slices.ContainsFunc(r.Cells, func(cell []int) bool {
		for i := 1; i < len(cell); i++ {
			if cell[i-1] >= cell[i] {
				return true
			}
		}
		return false
	})
}

func saysNoLine(r Row) bool { return r.Out == "" || !script.IsLine(r.Out) }
