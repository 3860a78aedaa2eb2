package script

import (
	"iter"

	"statute/api"
)

// maxPaths is how many bytes the paths that are gone through may have together. A list may lie within itself, and a law with such a list has provisions without an end.
const maxPaths = 1 << 24

// Each provision, at most so many.
func Each(l api.Item, most int) (paths []string, items []api.Item) {
	for path, it := range Through(l) {
		if len(paths) >= most {
			break
		}
		paths = append(paths, path)
		items = append(items, it)
	}
	return paths, shape().Copies(items)
}

// Through a law: the paths of its provisions, each ahead of its kids, and they, as they lie in the law. It comes to an end, also where the law has none.
func Through(l api.Item) iter.Seq2[string, api.Item] {
	return func(yield func(string, api.Item) bool) {
		w := walk{room: maxPaths, yield: yield}
		w.within(l, "")
	}
}

// walk is a way through a law.
type walk struct {
	room  int // for bytes of paths
	yield func(string, api.Item) bool
}

// within goes through the kids of an item, and tells whether to go on; ahead is what their paths begin with.
func (w *walk) within(it api.Item, ahead string) bool {
	for _, kid := range it.Kids {
		path := ahead + kid.Label
		w.room -= len(path)
		if w.room < 0 || !w.yield(path, kid) || !w.within(kid, path+pathMark) {
			return false
		}
	}
	return true
}
