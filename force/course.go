package force

import (
	"errors"

	"statute/amend"
	"statute/api"
)

// course is how a law came about: from the first one, act by act. From day to day most acts are the same: what came of those is not made again.
type course struct {
	first api.Item
	steps []step
}

// step is an act, and what came of it.
type step struct {
	act  string
	law  api.Item // as it is then
	note Note     // why the act was left out; zero: it was not
}

// course from a book's first law on; a book that is none has no law.
func (b *Book) course() *course {
	if b == nil {
		return &course{}
	}
	return &course{first: b.law}
}

// law at the end of a course.
func (c *course) law() api.Item {
	if len(c.steps) == 0 {
		return c.first
	}
	return c.steps[len(c.steps)-1].law
}

// follow makes a course that of a list of acts.
func (c *course) follow(acts []api.Act) {
	done := 0
	for done < len(acts) && done < len(c.steps) && acts[done].Name == c.steps[done].act {
		done++
	}
	c.steps = c.steps[:done]
	for _, a := range acts[done:] {
		c.steps = append(c.steps, take(c.law(), a))
	}
}

// take applies an act to a law; if it can't be applied, it is noted, and the law stays.
func take(l api.Item, a api.Act) step {
	next, err := amend.Apply(l, a.Ops)
	if err == nil {
		return step{act: a.Name, law: next}
	}
	note := Note{Act: a.Name, Change: -1, Err: err}
	var fault *api.Fault
	if errors.As(err, &fault) {
		note.Change, note.Err = fault.At, fault.Err
	}
	return step{act: a.Name, law: l, note: note}
}

// notes of the acts that were left out.
func (c *course) notes() []Note {
	var list []Note
	for _, s := range c.steps {
		if s.note.Err != nil {
			list = append(list, s.note)
		}
	}
	return list
}
