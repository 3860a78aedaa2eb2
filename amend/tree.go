package amend

import (
	"strconv"
	"strings"

	"statute/api"
)

// tree is an item as it is held against others.
type tree struct {
	item    api.Item
	path    string
	content int // a number for all that it has but its label: the same one, the same content
	kids    []*tree
	twin    bool // whether the same provision is at another place of the other law
}

// numbers are those of the contents that were met, by their forms.
type numbers map[string]int

// tree of the item at a path.
func (n numbers) tree(it api.Item, path string) *tree {
	t := &tree{item: it, path: path}
	var form strings.Builder
	form.WriteString(it.Head + "\n")
	for _, line := range it.Lines {
		form.WriteString("|" + line + "\n")
	}
	for _, kid := range it.Kids {
		inner := n.tree(kid, join(path, kid.Label))
		t.kids = append(t.kids, inner)
		form.WriteString(kid.Label + " " + strconv.Itoa(inner.content) + "\n")
	}
	t.content = n.of(form.String())
	return t
}

// of is the number of a form, from 1 on.
func (n numbers) of(form string) int {
	if n[form] == 0 {
		n[form] = len(n) + 1
	}
	return n[form]
}

// kind is what two provisions have in common that are the same, wherever they are.
type kind struct {
	label   string
	content int
}

func (t *tree) kind() kind { return kind{t.item.Label, t.content} }

// all are a tree and what lies in it.
func (t *tree) all() []*tree {
	list := []*tree{t}
	for _, kid := range t.kids {
		list = append(list, kid.all()...)
	}
	return list
}

// markTwins marks what two laws have both, but not at the same path.
func markTwins(a, b *tree) {
	strayA, strayB := strays(a, b), strays(b, a)
	markAll(strayA, strayB)
	markAll(strayB, strayA)
}

// strays are the provisions of a law of which others, or none, are at their paths in another law.
func strays(l, other *tree) []*tree {
	there := map[string]int{}
	for _, t := range other.all() {
		there[t.path] = t.content
	}
	var list []*tree
	for _, t := range l.all() {
		if there[t.path] != t.content {
			list = append(list, t)
		}
	}
	return list
}

// markAll marks those of a list that are the same as one of another list.
func markAll(list, others []*tree) {
	count := map[kind]int{}
	for _, t := range others {
		count[t.kind()]++
	}
	for _, t := range list {
		t.twin = count[t.kind()] > 0
	}
}
