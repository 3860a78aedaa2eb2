// Package tree copies trees that may have no end: a list of kids can lie within itself. Where such a tree is cut off hangs on what can be read in it alone, not on which of its lists are one in memory.
package tree

import "slices"

// maxWhole is up to how many nodes together trees are copied whole.
const maxWhole = 1000000

// Shape says what trees are like, and how they are copied.
type Shape[T any] struct {
	Kids func(n *T) *[]T // where a node's kids are
	Own  func(n *T)      // gives a node new memory for all it has but its kids
	Part int             // how many nodes under its first one are copied of a tree that can't be copied whole
}

// Copies of trees, in new memory.
func (s Shape[T]) Copies(trees []T) []T {
	most := s.Part
	if s.areAtMost(trees, maxWhole) {
		most = maxWhole
	}
	trees = slices.Clone(trees)
	for i := range trees {
		s.renew(&trees[i], most)
	}
	return trees
}

// Copy of a tree, in new memory.
func (s Shape[T]) Copy(t T) T { return s.Copies([]T{t})[0] }

// areAtMost tells whether trees have no more than so many nodes.
func (s Shape[T]) areAtMost(trees []T, most int) bool {
	most -= len(trees)
	open := [][]T{trees}
	for len(open) > 0 && most >= 0 {
		last := len(open) - 1
		list := open[last]
		open = open[:last]
		for i := range list {
			kids := *s.Kids(&list[i])
			most -= len(kids)
			if len(kids) > 0 && most >= 0 {
				open = append(open, kids)
			}
		}
	}
	return most >= 0
}

// renew gives a tree new memory, with at most so many nodes under its first one: those that are less deep first.
func (s Shape[T]) renew(t *T, most int) {
	s.Own(t)
	open := []*T{t}
	for len(open) > 0 {
		kids := s.Kids(open[0])
		open = open[1:]
		*kids = slices.Clone((*kids)[:min(most, len(*kids))])
		most -= len(*kids)
		for i := range *kids {
			s.Own(&(*kids)[i])
			open = append(open, &(*kids)[i])
		}
	}
}
