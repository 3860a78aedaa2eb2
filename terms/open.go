package terms

import (
	"statute/api"
	"statute/tree"
)

// opener puts definitions into conditions.
type opener struct {
	definitions
	states map[place]int // of the definitions that were met
	room   int           // for nodes
}

// States of a definition.
const (
	notMet = iota
	isOpen // it is being looked through
	isDone
)

// search throws ErrOrder, if a name in a condition at a path means itself. A condition that is too great may hide that, so it is looked for first.
func (o *opener) search(path string, n Node) {
	for _, name := range namesOf(n) {
		d, there := o.find(path, name)
		if !there {
			continue
		}
		key := place{d.Path, name}
		switch o.states[key] {
		case isOpen:
			throw(api.ErrOrder)
		case notMet:
			o.states[key] = isOpen
			o.search(d.Path, d.Sentence.If)
			o.states[key] = isDone
		}
	}
}

// namesOf a condition: those that could be defined, from the left.
func namesOf(n Node) []string {
	var names []string
	ahead := [][]Node{{n}}
	for looked := 0; len(ahead) > 0 && looked < maxLooked; {
		last := len(ahead) - 1
		if len(ahead[last]) == 0 {
			ahead = ahead[:last]
			continue
		}
		first := ahead[last][0]
		ahead[last] = ahead[last][1:]
		looked++
		if first.Kind == nameKind {
			names = append(names, first.Word)
		} else if isOfConditions(first.Kind) {
			ahead = append(ahead, first.Kids)
		}
	}
	return names
}

// isOfConditions tells whether what stands in a node of a kind are conditions.
func isOfConditions(kind string) bool {
	switch kind {
	case or, and, not, some, every:
		return true
	}
	return false
}

// open is a condition at a path, with all names that are defined put in.
func (o *opener) open(path string, n Node) Node {
	for n.Kind == nameKind {
		d, there := o.find(path, n.Word)
		if !there {
			break
		}
		path, n = d.Path, d.Sentence.If
	}
	if !isOfConditions(n.Kind) {
		return o.keep(n)
	}
	return o.each(n, func(kid Node) Node { return o.open(path, kid) })
}

// keep is a node as it is.
func (o *opener) keep(n Node) Node { return o.each(n, o.keep) }

// each is a node with what becomes of each of its kids.
func (o *opener) each(n Node, become func(kid Node) Node) Node {
	if o.room == 0 {
		throw(api.ErrBound)
	}
	o.room--
	var kids []Node
	for _, kid := range n.Kids {
		kids = append(kids, become(kid))
	}
	n.Kids = kids
	return n
}

// shape of nodes. Of what can't be copied whole there is more in a copy than can be opened.
func shape() tree.Shape[Node] {
	return tree.Shape[Node]{
		Kids: func(n *Node) *[]Node { return &n.Kids },
		Own:  func(n *Node) {},
		Part: 2 * maxOpened,
	}
}
