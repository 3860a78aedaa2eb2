package script

import (
	"iter"

	"statute/api"
	"statute/tree"
)

// Bounds of a way through a law. A list may lie within itself, and then there are provisions without an end.
const (
	maxPaths   = 1 << 32 // bytes of all paths together
	maxEndless = 1 << 24 // bytes of the paths of provisions that have no end
	maxWithin  = 1 << 22 // provisions and lines within those
)

// Each provision, at most so many.
func Each(l api.Item, most int) (paths []string, items []api.Item) {
	scale := shape().Scale()
	copier := scale.Copier()
	for path, it := range through(&l, scale) {
		if len(paths) >= most || !copier.Take(it) {
			break
		}
		paths = append(paths, path)
	}
	return paths, copier.Copies()
}

// Through a law: the paths of its provisions, each ahead of its kids, and they, as they lie in the law. It comes to an end, also where the law has none.
func Through(l api.Item) iter.Seq2[string, *api.Item] { return through(&l, shape().Scale()) }

func through(l *api.Item, s *tree.Scale[api.Item]) iter.Seq2[string, *api.Item] {
	return func(yield func(string, *api.Item) bool) {
		w := walk{scale: s, room: maxWhole, paths: maxPaths, endless: maxEndless, yield: yield}
		w.within(l, "")
	}
}

// walk is a way through a law.
type walk struct {
	scale   *tree.Scale[api.Item]
	room    int // for provisions and lines
	paths   int // room for bytes of paths
	endless int // that for bytes of paths of provisions that have no end
	yield   func(string, *api.Item) bool
}

// within goes through the kids of an item, and tells whether to go on; ahead is what their paths begin with.
func (w *walk) within(it *api.Item, ahead string) bool {
	for i := range it.Kids {
		kid := &it.Kids[i]
		path := ahead + kid.Label
		if !w.takes(kid, path) || !w.yield(path, kid) || !w.within(kid, path+pathMark) {
			return false
		}
	}
	return true
}

// takes tells whether there is room for a provision.
func (w *walk) takes(it *api.Item, path string) bool {
	w.room -= weight(it)
	w.paths -= len(path)
	if w.scale.Weigh(it) > maxWhole {
		w.endless -= len(path)
		w.room = min(w.room, maxWithin)
	}
	return w.room >= 0 && w.paths >= 0 && w.endless >= 0
}
