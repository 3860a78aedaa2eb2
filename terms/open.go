package terms

import (
	"statute/api"
	"statute/tree"
)

// Scope is what names mean among sentences, for conditions that are opened one after the other: what it has looked through once it knows. Until it is done the sentences must stay as they are.
type Scope struct {
	definitions
	states map[place]int     // of the definitions that were met
	ends   map[place]meaning // of those that were followed
	room   int               // for nodes
}

// ScopeOf sentences.
func ScopeOf(l []Placed) *Scope {
	return &Scope{definitions: definitionsOf(l), states: map[place]int{}, ends: map[place]meaning{}}
}

// Opened: a condition at a path with all names that are defined put in.
func (s *Scope) Opened(path string, n Node) (opened Node, err error) {
	defer func() {
		if x := recover(); x != nil {
			opened, err = Node{}, caught(x)
		}
	}()
	s.search(path, n)
	s.room = maxOpened
	return s.open(path, n), nil
}

// States of a definition.
const (
	notMet = iota
	isOpen // it is being looked through, or was when something that means itself was found in it
	isDone
)

// searched is a condition that is being looked through.
type searched struct {
	at    place    // of the definition whose condition it is
	names []string // in it that are still to be looked at
}

// search throws ErrOrder, if a name in a condition at a path means itself. A condition that is too great may hide that, so it is looked for first.
func (s *Scope) search(path string, n Node) {
	open := []searched{{place{path}, namesOf(n)}}
	for len(open) > 0 {
		top := &open[len(open)-1]
		if len(top.names) == 0 {
			open = open[:len(open)-1]
			// The first one is no definition's.
			if len(open) > 0 {
				s.states[top.at] = isDone
			}
			continue
		}
		name := top.names[0]
		top.names = top.names[1:]
		d, there := s.find(top.at[0], name)
		if !there {
			continue
		}
		key := place{d.Path, name}
		switch s.states[key] {
		case isOpen:
			throw(api.ErrOrder)
		case notMet:
			s.states[key] = isOpen
			open = append(open, searched{key, namesOf(d.Sentence.If)})
		}
	}
}

// namesOf a condition: those that could be defined, each once.
func namesOf(n Node) []string {
	var names []string
	met := map[string]int{}
	for node := range tree.Once(&n, conditionsIn) {
		if node.Kind == nameKind && met[node.Word] == 0 {
			met[node.Word]++
			names = append(names, node.Word)
		}
	}
	return names
}

// conditionsIn a node are its kids, if they are conditions.
func conditionsIn(n *Node) []Node {
	if isOfConditions(n.Kind) {
		return n.Kids
	}
	return nil
}

// isOfConditions tells whether what stands in a node of a kind are conditions.
func isOfConditions(kind string) bool {
	switch kind {
	case or, and, not, some, every:
		return true
	}
	return false
}

// open is a condition at a path, with all names that are defined put in.
func (s *Scope) open(path string, n Node) Node {
	path, n = s.end(path, n)
	if !isOfConditions(n.Kind) {
		return s.keep(n)
	}
	return s.each(n, func(kid Node) Node { return s.open(path, kid) })
}

// meaning is a condition, and where it stands.
type meaning struct {
	path string
	node Node
}

// end is what a condition at a path comes to, from name to name, and where that stands. It is kept: many names may come by the same long way.
func (s *Scope) end(path string, n Node) (string, Node) {
	var way []place
	for n.Kind == nameKind {
		d, there := s.find(path, n.Word)
		if !there {
			break
		}
		key := place{d.Path, n.Word}
		if m, known := s.ends[key]; known {
			path, n = m.path, m.node
			break
		}
		way = append(way, key)
		path, n = d.Path, d.Sentence.If
	}
	for _, key := range way {
		s.ends[key] = meaning{path, n}
	}
	return path, n
}

// keep is a node as it is.
func (s *Scope) keep(n Node) Node { return s.each(n, s.keep) }

// each is a node with what becomes of each of its kids.
func (s *Scope) each(n Node, become func(kid Node) Node) Node {
	if s.room == 0 {
		throw(api.ErrBound)
	}
	s.room--
	var kids []Node
	for _, kid := range n.Kids {
		kids = append(kids, become(kid))
	}
	n.Kids = kids
	return n
}

// maxWhole is how many nodes are copied whole: as many as there is room for in memory.
const maxWhole = 1 << 26

// shape of nodes. Of what can't be copied whole there is more in a copy than can be opened.
func shape() tree.Shape[Node] {
	return tree.Shape[Node]{
		Kids:   func(n *Node) *[]Node { return &n.Kids },
		Own:    func(n *Node) {},
		Weight: func(n *Node) int { return 1 },
		Whole:  maxWhole,
		Part:   2 * maxOpened,
	}
}
