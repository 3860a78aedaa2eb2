// Package tree weighs, copies and goes through trees that may have no end: a list of kids can lie within itself. So as to come to an end it looks at which nodes are one in memory; but what it answers hangs on what can be read in a tree alone.
package tree

import "slices"

// Shape says what trees are like, and how they are copied.
type Shape[T any] struct {
	Kids   func(n *T) *[]T // where a node's kids are
	Own    func(n *T)      // gives a node new memory for all it has but its kids
	Weight func(n *T) int  // of a node without its kids: at least 1
	Whole  int             // weight up to which trees are copied whole
	Part   int             // weight of what is copied under the first node of other ones
}

// Copy of a tree, in new memory.
func (s Shape[T]) Copy(t T) T {
	most := s.Part
	if s.Scale().Weigh(&t) <= s.Whole {
		most = s.Whole
	}
	s.renew(&t, most)
	return t
}

// renew gives a tree new memory, with nodes of at most a weight under its first one: those that are less deep first.
func (s Shape[T]) renew(t *T, most int) {
	s.Own(t)
	open := []*T{t}
	for len(open) > 0 {
		kids := s.Kids(open[0])
		open = open[1:]
		*kids, most = s.thatFit(*kids, most)
		*kids = slices.Clone(*kids)
		for i := range *kids {
			kid := &(*kids)[i]
			s.Own(kid)
			if inner := s.Kids(kid); len(*inner) > 0 {
				open = append(open, kid)
			} else {
				// Behind an empty list, too, there may be room, and in it what is somebody else's.
				*inner = slices.Clone(*inner)
			}
		}
	}
}

// thatFit are the first of a list, of at most a weight together, and how much is left of it.
func (s Shape[T]) thatFit(list []T, most int) ([]T, int) {
	for i := range list {
		weight := s.Weight(&list[i])
		if weight > most {
			// Nothing comes behind what was left out.
			return list[:i], 0
		}
		most -= weight
	}
	return list, most
}

// Copier copies trees that may have nodes in common. Until it is done they must stay as they are.
type Copier[T any] struct {
	scale *Scale[T]
	trees []*T
	whole int // weight of those together that can be copied whole
	parts int // weight of all copies, if none is whole
}

// Copier of trees that are weighed on a scale.
func (s *Scale[T]) Copier() *Copier[T] { return &Copier[T]{scale: s} }

// Take a tree that is to be copied; false: there is no room for it.
func (c *Copier[T]) Take(t *T) bool {
	shape, weight := c.scale.shape, c.scale.Weigh(t)
	if weight <= shape.Whole {
		c.whole = min(c.whole+weight, c.scale.tooMuch())
	}
	c.parts += min(weight, shape.Weight(t)+shape.Part)
	if c.parts > shape.Whole {
		return false
	}
	c.trees = append(c.trees, t)
	return true
}

// Copies of the trees that were taken, in new memory: if there is room for that, all are whole that can be.
func (c *Copier[T]) Copies() []T {
	var copies []T
	shape := c.scale.shape
	for _, t := range c.trees {
		most := shape.Part
		if c.whole <= shape.Whole && c.scale.Weigh(t) <= shape.Whole {
			most = shape.Whole
		}
		root := *t
		shape.renew(&root, most)
		copies = append(copies, root)
	}
	return copies
}
