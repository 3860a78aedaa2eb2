package amend

import (
	"strconv"
	"strings"

	"statute/api"
)

// tree is an item as it is held against others.
type tree struct {
	item    api.Item
	outer   *tree // what it lies in; nil: it is the law
	kids    []*tree
	number  int     // among all of its law, each ahead of its kids
	size    int     // how many it is, with all that lies in it
	place   int     // among its siblings
	texts   int     // a number for its heading and its lines: the same one, the same texts
	content int     // a number for all that it has but its label
	like    []*tree // those of the other law with its label and its texts
	stray   bool    // whether the other law has not the same at its path
	twin    bool    // whether the other law seems to have it too, at another path
	mate    *tree   // what becomes of it, or what it comes of; nil: nothing
	inOrder bool    // whether it stays among its siblings where it is
}

// numbers are those of the forms that were met.
type numbers map[string]int

// tree of an item that lies in another one.
func (n numbers) tree(it api.Item, outer *tree) *tree {
	t := &tree{item: it, outer: outer, size: 1}
	var form strings.Builder
	form.WriteString(it.Head + "\n")
	for _, line := range it.Lines {
		form.WriteString("|" + line + "\n")
	}
	t.texts = n.of(form.String())
	for i, kid := range it.Kids {
		inner := n.tree(kid, t)
		inner.place = i
		t.kids = append(t.kids, inner)
		t.size += inner.size
		form.WriteString(kid.Label + " " + strconv.Itoa(inner.content) + "\n")
	}
	t.content = n.of(form.String())
	return t
}

// of is the number of a form, from 1 on.
func (n numbers) of(form string) int {
	if n[form] == 0 {
		n[form] = len(n) + 1
	}
	return n[form]
}

// all are a tree and what lies in it, each ahead of its kids, behind those of a list; they get their numbers.
func (t *tree) all(list []*tree) []*tree {
	t.number = len(list)
	list = append(list, t)
	for _, kid := range t.kids {
		list = kid.all(list)
	}
	return list
}

func (t *tree) label() string { return t.item.Label }

// path of a tree in its law.
func (t *tree) path() string {
	if t.outer == nil {
		return ""
	}
	return join(t.outer.path(), t.label())
}

// couple makes one tree become another one.
func couple(x, y *tree) { x.mate, y.mate = y, x }

// part undoes that.
func part(x *tree) { x.mate.mate, x.mate = nil, nil }

// isInPlace tells whether what a tree lies in becomes that in which its mate lies.
func (t *tree) isInPlace() bool { return t.outer.mate == t.mate.outer }

// isExposed tells whether a tree has no mate, while what it lies in has one: it goes, or comes, by a change of its own.
func (t *tree) isExposed() bool { return t.mate == nil && t.outer != nil && t.outer.mate != nil }
