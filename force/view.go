package force

import (
	"statute/api"
	"statute/script"
)

// View of a book, as known on a day, for many days: acts that are the same from one to the next are not done again.
type View struct {
	book   *Book
	known  int
	course *course
}

// View as known on a day.
func (b *Book) View(known int) *View { return &View{book: b, known: known, course: b.course()} }

// At: the law on a day.
func (v *View) At(on int) (api.Item, []Note, bool) {
	if !v.book.covers(on) || !isDay(v.known) {
		return api.Item{}, nil, false
	}
	v.course.follow(v.book.actsAt(on, v.known))
	return script.Copy(v.course.law()), v.course.notes(), true
}
