package desk

import "slices"

// maxAsked is how many questions are kept: the last one, and those that 200 others were asked behind at most.
const maxAsked = 201

// asked is a question, as known on a day, and what was answered.
type asked[Q comparable, A any] struct {
	question Q
	known    int
	answer   A
	err      error
}

// memory of what was asked: what was asked last stands last.
type memory[Q comparable, A any] struct {
	list []asked[Q, A]
}

// ask a question: its answer is worked out, if it is not there.
func (m *memory[Q, A]) ask(question Q, known int, work func() (A, error)) (A, error) {
	x, there := m.find(question)
	if !there {
		x = asked[Q, A]{question: question, known: known}
		x.answer, x.err = work()
	}
	m.keep(x)
	return x.answer, x.err
}

// find what was asked.
func (m *memory[Q, A]) find(question Q) (asked[Q, A], bool) {
	i := slices.IndexFunc(m.list, func(x asked[Q, A]) bool { return x.question == question })
	if i < 0 {
		return asked[Q, A]{}, false
	}
	return m.list[i], true
}

// keep something as what was asked last.
func (m *memory[Q, A]) keep(last asked[Q, A]) {
	m.drop(func(x asked[Q, A]) bool { return x.question == last.question })
	m.list = append(m.list, last)
	if len(m.list) > maxAsked {
		m.list = slices.Delete(m.list, 0, 1)
	}
}

// forget what hangs on what became known on a day.
func (m *memory[Q, A]) forget(learnt int) {
	m.drop(func(x asked[Q, A]) bool { return x.known >= learnt })
}

// drop what is so.
func (m *memory[Q, A]) drop(is func(x asked[Q, A]) bool) { m.list = slices.DeleteFunc(m.list, is) }
