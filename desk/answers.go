package desk

import (
	"slices"

	"statute/api"
	"statute/day"
	"statute/decide"
	"statute/force"
	"statute/sums"
)

// lawAsked: a law that is in force from a day on, as known on a day.
type lawAsked struct{ since, known int }

// law, and the acts that could not be done.
type law struct {
	item  api.Item
	notes []force.Note
}

// decided is what was answered of a case, if there was a law.
type decided struct {
	answer decide.Answer
	there  bool
}

// whyAsked: why a literal holds, or fails.
type whyAsked struct {
	decide.Case
	name     string
	positive bool
}

// reason of that, row by row, if there is one.
type reason struct {
	rows []string
	is   bool
}

// dueAsked: what comes to somebody month by month.
type dueAsked struct {
	who                  int
	name                 string
	from, to, known, way int
}

// lawOn a day, as known on a day; view is the book's, as known then. From the day on which other acts came into force, all days up to that one have one law: it is put together once for them.
func (d *Desk) lawOn(on, known int, view *force.View) (law, bool) {
	days := slices.DeleteFunc(d.book.Days(known), func(x int) bool { return x > on })
	if len(days) == 0 || !day.IsDay(on) {
		return law{}, false
	}
	since := days[len(days)-1]
	l, _ := d.laws.ask(lawAsked{since, known}, known, func() (law, error) {
		d.work++
		item, notes, _ := view.At(since)
		return law{item, notes}, nil
	})
	return l, true
}

// decide a case; view is the book's, as known then.
func (d *Desk) decide(c decide.Case, view *force.View) (decided, error) {
	l, there := d.lawOn(c.On, c.Known, view)
	if !there {
		return decided{}, nil
	}
	d.work++
	answer, err := decide.Decide(l.item, d.file, c)
	return decided{answer, true}, err
}

// explain a literal.
func (d *Desk) explain(q whyAsked) (reason, error) {
	l, there := d.lawOn(q.On, q.Known, d.book.View(q.Known))
	if !there {
		return reason{}, api.ErrDay
	}
	d.work++
	rows, is, err := decide.Why(l.item, d.file, q.Case, q.name, q.positive)
	return reason{rows, is}, err
}

// reckon what comes to somebody. There may be thousands of cases on the way: they are looked for among those that were asked, but not kept with them, as these would be forgotten.
func (d *Desk) reckon(q dueAsked) ([]sums.Pay, error) {
	view := d.book.View(q.known)
	decides := func(c decide.Case) (decide.Answer, bool, error) {
		if x, is := d.cases.find(c); is {
			return x.answer.answer, x.answer.there, x.err
		}
		x, err := d.decide(c, view)
		return x.answer, x.there, err
	}
	return sums.DueBy(decides, d.book, d.file, q.who, q.name, q.from, q.to, q.known, q.way)
}

// copyAnswer, as what is answered is not the desk's own.
func copyAnswer(a decide.Answer) decide.Answer {
	a.Names = slices.Clone(a.Names)
	a.Known.Sure = slices.Clone(a.Known.Sure)
	a.Known.Holds = slices.Clone(a.Known.Holds)
	a.Amounts = slices.Clone(a.Amounts)
	return a
}
