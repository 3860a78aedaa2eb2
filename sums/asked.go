package sums

import (
	"slices"

	"statute/decide"
	"statute/facts"
	"statute/force"
)

// anybody stands for all people, where turns are asked for.
const anybody = -1

// Decider tells what the law that is in force on a case's day, as known on its other one, says of it; false: there is no law.
type Decider func(c decide.Case) (answer decide.Answer, there bool, err error)

// deciderBy a book and a file, of cases that are known on one day.
func deciderBy(b *force.Book, f *facts.File, known int) Decider {
	laws := b.View(known)
	return func(c decide.Case) (decide.Answer, bool, error) {
		law, _, there := laws.At(c.On)
		if !there {
			return decide.Answer{}, false, nil
		}
		answer, err := decide.Decide(law, f, c)
		return answer, true, err
	}
}

// asked is an amount of somebody that is asked for on many days.
type asked struct {
	decides Decider
	who     int
	name    string
	known   int
}

// on a day: 0, if there is no law yet, or none that has such an amount.
func (a asked) on(day int) (int, error) {
	answer, there, err := a.decides(decide.Case{Who: a.who, On: day, Known: a.known})
	if err != nil || !there {
		return 0, err
	}
	i := slices.IndexFunc(answer.Amounts, func(x decide.Amount) bool { return x.Name == a.name })
	if i < 0 {
		return 0, nil
	}
	return answer.Amounts[i].Cents, nil
}

// turns are the days, rising, from one on, ahead of another, on which what is decided may become something else; the first one is among them. A decision may hang on the facts of anybody, as people stand to each other.
func turns(b *force.Book, f *facts.File, from, to, known int) []int {
	days := slices.Concat([]int{from}, b.Days(known), f.Turns(anybody, known))
	days = slices.DeleteFunc(days, func(d int) bool { return d < from || d >= to })
	slices.Sort(days)
	return slices.Compact(days)
}
