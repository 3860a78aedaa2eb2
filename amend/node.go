package amend

import "statute/api"

// node is a provision of the law that is changed, as it is now.
type node struct {
	label string
	outer *node
	kids  []*node
	to    *tree // what it is to become
	there bool  // whether it stands in its place, in order
	moved bool  // whether it was once brought out of the way
}

// path of a node.
func (n *node) path() string {
	if n.outer == nil {
		return ""
	}
	return join(n.outer.path(), n.label)
}

// kid with a label; nil: there is none.
func (n *node) kid(label string) *node {
	for _, kid := range n.kids {
		if kid.label == label {
			return kid
		}
	}
	return nil
}

// lies tells whether a node is another one, or lies in it.
func (n *node) lies(outer *node) bool {
	for ; n != nil; n = n.outer {
		if n == outer {
			return true
		}
	}
	return false
}

// depth of a node: how many provisions it is in, with it.
func (n *node) depth() int {
	deep := 0
	for ; n.outer != nil; n = n.outer {
		deep++
	}
	return deep
}

// levels is how many nodes lie within each other in one, with it.
func (n *node) levels() int {
	most := 0
	for _, kid := range n.kids {
		most = max(most, kid.levels())
	}
	return most + 1
}

// needsLabel tells whether a node's label is not yet right.
func (n *node) needsLabel() bool { return n.outer != nil && n.label != n.to.label() }

// needsMove tells whether a node is not yet in its place.
func (n *node) needsMove() bool { return n.outer != nil && !n.there }

// fits tells whether a node can be moved into another one.
func (n *node) fits(outer *node) bool {
	if n.outer == outer {
		return true
	}
	return !outer.lies(n) && outer.kid(n.label) == nil && outer.depth()+n.levels() <= api.MaxDeep
}

// leaver is one in a node that is to go elsewhere; nil: none is.
func (n *node) leaver() *node {
	for _, kid := range n.kids {
		if kid.needsMove() {
			return kid
		}
		if inner := kid.leaver(); inner != nil {
			return inner
		}
	}
	return nil
}
