package facts

import (
	"statute/api"
	"statute/coin"
)

// hundredths are those of 1.
const hundredths = 100

// next that is to be asked: the next kid, or its only one of somebody else.
func (q *question) next() ask {
	kids := q.node.Kids
	return ask{
		node: &kids[min(q.heard, len(kids)-1)],
		who:  q.of[q.heard],
		sum:  q.sum || isOrder(q.node.Kind),
	}
}

// hear what the next one is worth; way: how parts are rounded.
func (q *question) hear(value, way int) error {
	q.heard++
	switch q.node.Kind {
	case or, some:
		q.value = max(q.value, value)
	case and, every:
		q.value = min(q.value, value)
	case not:
		q.value = 1 - value
	case times:
		return q.hearTimes(value, way)
	default:
		q.hearOneOfTwo(value)
	}
	return q.checkSize()
}

func (q *question) hearTimes(value, way int) (err error) {
	if q.node.N < 0 || q.node.N > api.MaxRate {
		return api.ErrKind
	}
	q.value, err = coin.Part(value, q.node.N, way)
	return err
}

// hearOneOfTwo hears the first of two sums, or the second one.
func (q *question) hearOneOfTwo(value int) {
	if q.heard == 1 {
		q.value = value
		return
	}
	first, second := q.value, value
	switch q.node.Kind {
	case plus:
		q.value = first + second
	case minus:
		q.value = first - second
	case maximum:
		q.value = max(first, second)
	case minimum:
		q.value = min(first, second)
	default:
		q.value = truth(isOrdered(q.node.Kind, first, second))
	}
}

// isOrdered tells whether two sums are as an order says.
func isOrdered(order string, first, second int) bool {
	switch order {
	case less:
		return first < second
	case atMost:
		return first <= second
	case equal:
		return first == second
	case unequal:
		return first != second
	case atLeast:
		return first >= second
	}
	return first > second
}

func truth(is bool) int {
	if is {
		return 1
	}
	return 0
}

func (q *question) checkSize() error {
	if !isValue(q.value) {
		return api.ErrCoin
	}
	return nil
}
