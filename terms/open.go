package terms

import (
	"statute/api"
	"statute/tree"
)

// opener puts definitions into conditions.
type opener struct {
	definitions
	states map[place]int // of the definitions that were met
	room   int           // for nodes
}

// States of a definition.
const (
	notMet = iota
	isOpen // it is being looked through
	isDone
)

// searched is a condition that is being looked through.
type searched struct {
	at    place    // of the definition whose condition it is
	names []string // in it that are still to be looked at
}

// search throws ErrOrder, if a name in a condition at a path means itself. A condition that is too great may hide that, so it is looked for first.
func (o *opener) search(path string, n Node) {
	open := []searched{{place{path}, namesOf(n)}}
	for len(open) > 0 {
		top := &open[len(open)-1]
		if len(top.names) == 0 {
			o.states[top.at] = isDone
			open = open[:len(open)-1]
			continue
		}
		name := top.names[0]
		top.names = top.names[1:]
		d, there := o.find(top.at[0], name)
		if !there {
			continue
		}
		key := place{d.Path, name}
		switch o.states[key] {
		case isOpen:
			throw(api.ErrOrder)
		case notMet:
			o.states[key] = isOpen
			open = append(open, searched{key, namesOf(d.Sentence.If)})
		}
	}
}

// namesOf a condition: those that could be defined, each once.
func namesOf(n Node) []string {
	var names []string
	met := map[string]int{}
	for node := range tree.Once(&n, conditionsIn) {
		if node.Kind == nameKind && met[node.Word] == 0 {
			met[node.Word]++
			names = append(names, node.Word)
		}
	}
	return names
}

// conditionsIn a node are its kids, if they are conditions.
func conditionsIn(n *Node) []Node {
	if isOfConditions(n.Kind) {
		return n.Kids
	}
	return nil
}

// isOfConditions tells whether what stands in a node of a kind are conditions.
func isOfConditions(kind string) bool {
	switch kind {
	case or, and, not, some, every:
		return true
	}
	return false
}

// open is a condition at a path, with all names that are defined put in.
func (o *opener) open(path string, n Node) Node {
	for n.Kind == nameKind {
		d, there := o.find(path, n.Word)
		if !there {
			break
		}
		path, n = d.Path, d.Sentence.If
	}
	if !isOfConditions(n.Kind) {
		return o.keep(n)
	}
	return o.each(n, func(kid Node) Node { return o.open(path, kid) })
}

// keep is a node as it is.
func (o *opener) keep(n Node) Node { return o.each(n, o.keep) }

// each is a node with what becomes of each of its kids.
func (o *opener) each(n Node, become func(kid Node) Node) Node {
	if o.room == 0 {
		throw(api.ErrBound)
	}
	o.room--
	var kids []Node
	for _, kid := range n.Kids {
		kids = append(kids, become(kid))
	}
	n.Kids = kids
	return n
}

// maxWhole is how many nodes are copied whole: as many as there is room for in memory.
const maxWhole = 1 << 26

// shape of nodes. Of what can't be copied whole there is more in a copy than can be opened.
func shape() tree.Shape[Node] {
	return tree.Shape[Node]{
		Kids:   func(n *Node) *[]Node { return &n.Kids },
		Own:    func(n *Node) {},
		Weight: func(n *Node) int { return 1 },
		Whole:  maxWhole,
		Part:   2 * maxOpened,
	}
}
