package amend

import (
	"slices"
	"strconv"

	"statute/api"
	"statute/script"
)

// draft is a list of changes, as far as it was made, and what came of them.
type draft struct {
	ops    []api.Op
	nodes  []*node        // for each of the law that comes, what it comes of; nil: it is put
	labels map[string]int // 1 for each label that was ever taken
}

// changes that make one law of another, as its provisions are coupled; false: they stand in each other's way.
func changes(from, to []*tree) ([]api.Op, bool) {
	d := &draft{nodes: make([]*node, len(to)), labels: map[string]int{}}
	for _, t := range slices.Concat(from, to) {
		d.labels[t.label()] = 1
	}
	// What goes, goes first, and what is put comes last: so there is never more than one of the laws has.
	for _, x := range from {
		if x.isExposed() {
			d.ops = append(d.ops, api.Op{Kind: api.ORepeal, Path: x.path()})
		}
	}
	d.plant(from[0], nil)
	if !d.settle() {
		return nil, false
	}
	for _, y := range to {
		if y.isExposed() {
			d.put(y)
		}
	}
	for _, x := range from {
		if x.mate != nil && x.texts != x.mate.texts {
			d.ops = append(d.ops, textChanges(x.mate.path(), x.item, x.mate.item)...)
		}
	}
	return d.ops, true
}

// spareLabel is one that no provision has, nor will have.
func (d *draft) spareLabel() string {
	n := 1
	for d.labels[strconv.Itoa(n)] > 0 {
		n++
	}
	d.labels[strconv.Itoa(n)] = 1
	return strconv.Itoa(n)
}

// plant makes nodes of a provision that stays, and of those in it.
func (d *draft) plant(x *tree, outer *node) {
	n := &node{label: x.label(), outer: outer, to: x.mate}
	d.nodes[x.mate.number] = n
	if outer != nil {
		outer.kids = append(outer.kids, n)
		n.there = x.inOrder && x.isInPlace()
	}
	for _, kid := range x.kids {
		if kid.mate != nil {
			d.plant(kid, n)
		}
	}
}

// ahead is the label of that which stands in its place ahead of where something is to stand; empty: nothing does.
func (d *draft) ahead(y *tree) string {
	for i := y.place - 1; i >= 0; i-- {
		if n := d.nodes[y.outer.kids[i].number]; n != nil && n.there {
			return n.label
		}
	}
	return ""
}

// put puts what is new.
func (d *draft) put(y *tree) {
	outer := d.nodes[y.outer.number]
	d.ops = append(d.ops, api.Op{Kind: api.OPut, Path: outer.path(), At: d.ahead(y), Item: script.Copy(y.item)})
	d.nodes[y.number] = &node{label: y.label(), outer: outer, to: y, there: true}
}

// relabel gives a node a label.
func (d *draft) relabel(n *node, label string) {
	d.ops = append(d.ops, api.Op{Kind: api.OLabel, Path: n.path(), Text: label})
	n.label = label
}

// move brings a node into another one, behind the kid with a label.
func (d *draft) move(n, outer *node, at string) {
	d.ops = append(d.ops, api.Op{Kind: api.OMove, Path: n.path(), New: outer.path(), At: at})
	n.outer.kids = slices.DeleteFunc(n.outer.kids, func(kid *node) bool { return kid == n })
	n.outer = outer
	outer.kids = append(outer.kids, n)
}

// settle brings all nodes to their labels and places. If they wait for each other in a ring, one is brought out of the way.
func (d *draft) settle() bool {
	for {
		var waiting []*node
		done := false
		for _, n := range d.nodes {
			if n != nil && (n.needsLabel() || n.needsMove()) {
				waiting = append(waiting, n)
				done = d.step(n) || done
			}
		}
		if len(waiting) == 0 {
			return true
		}
		if !done && !d.makeWay(waiting) {
			return false
		}
	}
}

// step does for a node what can be done; it tells whether something could.
func (d *draft) step(n *node) bool {
	done := false
	if target := d.nodes[n.to.outer.number]; n.needsMove() && n.fits(target) {
		d.move(n, target, d.ahead(n.to))
		n.there = true
		done = true
	}
	// What was brought out of the way gets its label where it is to stay.
	stays := n.there || !n.moved
	if stays && n.needsLabel() && n.outer.kid(n.to.label()) == nil {
		d.relabel(n, n.to.label())
		done = true
	}
	return done
}

// makeWay brings a node out of the way of others; false: none can be.
func (d *draft) makeWay(waiting []*node) bool {
	ring := d.ring(waiting[0])
	for _, n := range ring {
		if !n.moved && n.needsLabel() {
			n.moved = true
			d.relabel(n, d.spareLabel())
			return true
		}
	}
	for _, n := range ring {
		if n.moved {
			continue
		}
		n.moved = true
		if outer := d.shelter(n); outer != nil {
			d.move(n, outer, "")
		} else {
			d.relabel(n, d.spareLabel())
		}
		return true
	}
	return false
}

// ring of nodes that wait for each other, to which one leads.
func (d *draft) ring(n *node) []*node {
	var list []*node
	for n != nil && !slices.Contains(list, n) {
		list = append(list, n)
		n = d.blocker(n)
	}
	if n == nil {
		return list
	}
	return list[slices.Index(list, n):]
}

// blocker is the node for which one waits.
func (d *draft) blocker(n *node) *node {
	if n.there {
		return n.outer.kid(n.to.label())
	}
	target := d.nodes[n.to.outer.number]
	if target.lies(n) {
		for ; target != n; target = target.outer {
			if target.needsMove() {
				return target
			}
		}
	}
	if other := target.kid(n.label); other != nil {
		return other
	}
	return n.leaver()
}

// shelter is a node in which one can be for a while; nil: there is none. Best nobody wants to be there.
func (d *draft) shelter(n *node) *node {
	var some *node
	for _, outer := range d.nodes {
		if outer == nil || outer == n.outer || !n.fits(outer) {
			continue
		}
		if !slices.ContainsFunc(outer.to.kids, func(y *tree) bool { return y.label() == n.label }) {
			return outer
		}
		some = outer
	}
	return some
}
