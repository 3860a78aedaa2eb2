package terms

import (
	"strconv"

	"statute/api"
)

// How close nodes of a condition hold together: one that is looser than its place allows must stand in brackets.
const (
	orLevel = iota
	andLevel
	notLevel
	testLevel
)

// How close nodes of a sum hold together.
const (
	sumLevel = iota
	partLevel
	factorLevel
)

func levelOfCondition(kind string) int {
	switch kind {
	case or:
		return orLevel
	case and:
		return andLevel
	case not:
		return notLevel
	}
	return testLevel
}

func levelOfSum(kind string) int {
	switch kind {
	case plus, minus:
		return sumLevel
	case times:
		return partLevel
	}
	return factorLevel
}

// condition writes a node where nothing that is looser than a level may stand without brackets.
func (w *writer) condition(n Node, level int) {
	own := levelOfCondition(n.Kind)
	if own < level {
		w.put(opening)
		w.condition(n, orLevel)
		w.put(closing)
		return
	}
	w.enter()
	switch n.Kind {
	case or, and:
		w.condition(kid(n, 0), own)
		w.put(n.Kind)
		w.condition(kid(n, 1), own+1)
	case not:
		w.put(not)
		w.condition(kid(n, 0), own)
	case some, every:
		w.put(n.Kind, n.Word, opening)
		w.condition(kid(n, 0), orLevel)
		w.put(closing)
	case nameKind:
		w.put(n.Word)
	default:
		w.comparison(n)
	}
	w.leave()
}

func (w *writer) comparison(n Node) {
	if !isOrder(n.Kind) {
		throw(api.ErrText)
	}
	w.sum(kid(n, 0), sumLevel)
	w.put(n.Kind)
	w.sum(kid(n, 1), sumLevel)
}

// sum writes a node where nothing that is looser than a level may stand without brackets.
func (w *writer) sum(n Node, level int) {
	own := levelOfSum(n.Kind)
	if own < level {
		w.put(squareOpening)
		w.sum(n, sumLevel)
		w.put(squareClosing)
		return
	}
	w.enter()
	switch n.Kind {
	case plus, minus:
		w.sum(kid(n, 0), own)
		w.put(n.Kind)
		w.sum(kid(n, 1), own+1)
	case times:
		w.sum(kid(n, 0), own)
		w.put(times, numberText(n.N), percent)
	default:
		w.factor(n)
	}
	w.leave()
}

func (w *writer) factor(n Node) {
	switch n.Kind {
	case numberKind:
		w.put(numberText(n.N))
	case nameKind:
		w.put(n.Word)
	case count:
		w.put(count, n.Word)
	case total:
		w.put(total, n.Word, of, kid(n, 0).Word)
	case maximum, minimum:
		w.put(n.Kind, opening)
		w.sum(kid(n, 0), sumLevel)
		w.put(comma)
		w.sum(kid(n, 1), sumLevel)
		w.put(closing)
	default:
		throw(api.ErrText)
	}
}

// enter begins a node. Each around it needs a byte of the line: one that is deeper than that has no room in it, and perhaps no end.
func (w *writer) enter() {
	w.deep++
	if w.deep > api.MaxLine {
		throw(api.ErrText)
	}
}

// leave ends a node.
func (w *writer) leave() { w.deep-- }

// kid of a node.
func kid(n Node, i int) Node {
	if i >= len(n.Kids) {
		throw(api.ErrText)
	}
	return n.Kids[i]
}

// numberText is a number of so many hundredths; of one below 0 it is none.
func numberText(n int) string {
	whole := strconv.Itoa(n / 100)
	if n%100 == 0 {
		return whole
	}
	return whole + point + strconv.Itoa(n%100/10) + strconv.Itoa(n%10)
}
