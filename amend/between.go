package amend

import (
	"slices"

	"statute/api"
	"statute/script"
)

// Between two laws: changes that make the second one of the first.
func Between(a, b api.Item) ([]api.Op, error) {
	if err := script.Valid(a); err != nil {
		return nil, err
	}
	if err := script.Valid(b); err != nil {
		return nil, err
	}
	n := numbers{}
	from, to := n.tree(a, ""), n.tree(b, "")
	ops := changes(from, to)
	// Where twins are counted upon that then find each other, fewer changes do; where they don't, more.
	markTwins(from, to)
	if others := changes(from, to); len(others) < len(ops) {
		ops = others
	}
	if len(ops) > api.MaxOps {
		return nil, api.ErrBound
	}
	return ops, nil
}

// draft is a list of changes, as far as it was made. All that it changes lies in provisions that stay at their paths: so these paths are the same from the first change to the last.
type draft struct {
	ops   []api.Op
	plans []*plan
	taken map[string]int // 1 at the paths at which a kid of such a provision stands
}

// changes that make one law of another.
func changes(from, to *tree) []api.Op {
	d := draft{taken: map[string]int{}}
	d.gather(planOf(from, to))
	d.pairTwins()
	// What goes, goes first: so there is never more than one of the laws has.
	d.repeal()
	d.settle()
	for _, p := range d.plans {
		d.changeTexts(p)
		d.fill(p)
	}
	return d.ops
}

// gather makes a list of a plan and those in it.
func (d *draft) gather(p *plan) {
	d.plans = append(d.plans, p)
	for _, kid := range p.from.kids {
		d.taken[kid.path] = 1
	}
	for _, x := range p.places {
		if x.inner != nil {
			d.gather(x.inner)
		}
	}
}

// pairTwins finds for what is to be put the same among what goes: it moves.
func (d *draft) pairTwins() {
	leavers := map[kind][]*leaver{}
	for _, p := range d.plans {
		for _, x := range p.gone {
			leavers[x.kind()] = append(leavers[x.kind()], x)
		}
	}
	for _, p := range d.plans {
		for _, x := range p.places {
			same := leavers[x.to.kind()]
			if x.from == nil && len(same) > 0 {
				x.from = same[0].tree
				same[0].moves = true
				leavers[x.to.kind()] = same[1:]
			}
		}
	}
}

// repeal takes away what goes and comes nowhere.
func (d *draft) repeal() {
	for _, p := range d.plans {
		for _, x := range p.gone {
			if !x.moves {
				d.repealOne(x.tree)
			}
		}
	}
}

func (d *draft) repealOne(t *tree) {
	d.ops = append(d.ops, api.Op{Kind: api.ORepeal, Path: t.path})
	d.taken[t.path] = 0
}

// settle brings to other paths what gets there from others.
func (d *draft) settle() {
	waiting := d.travellers()
	for len(waiting) > 0 {
		var blocked []*place
		for _, x := range waiting {
			if d.taken[x.to.path] == 0 {
				d.bring(x)
			} else {
				blocked = append(blocked, x)
			}
		}
		if len(blocked) == len(waiting) {
			// They wait for each other in a ring: one is put, so that the others can go on.
			d.repealOne(blocked[0].from)
			blocked[0].from, blocked[0].there = nil, false
			blocked = blocked[1:]
		}
		waiting = blocked
	}
}

// travellers are the places of what comes from another path.
func (d *draft) travellers() []*place {
	var list []*place
	for _, p := range d.plans {
		for _, x := range p.places {
			if x.from != nil && x.from.path != x.to.path {
				list = append(list, x)
			}
		}
	}
	return list
}

// bring makes of what is at another path that which is to stand at a place.
func (d *draft) bring(x *place) {
	d.taken[x.from.path] = 0
	d.taken[x.to.path] = 1
	if x.there {
		d.ops = append(d.ops, api.Op{Kind: api.OLabel, Path: x.from.path, Text: x.to.item.Label})
		x.label = x.to.item.Label
		return
	}
	d.insert(x)
}

// insert moves or puts something to its place.
func (d *draft) insert(x *place) {
	o := api.Op{Kind: api.OPut, Path: x.in.to.path, At: x.ahead()}
	if x.from == nil {
		o.Item = script.Copy(x.to.item)
	} else {
		o.Kind, o.Path, o.New = api.OMove, x.from.path, x.in.to.path
	}
	d.ops = append(d.ops, o)
	x.there, x.label = true, x.to.item.Label
}

// fill moves and puts, from the first to the last, what does not yet stand in its place.
func (d *draft) fill(p *plan) {
	for _, x := range p.places {
		if !x.there {
			d.insert(x)
		}
	}
}

// changeTexts changes the heading and the lines. What is dropped goes first, from the last one up, so that there are never too many; what is added comes last, from the first one down: so all numbers are right when they are told.
func (d *draft) changeTexts(p *plan) {
	old, young := p.from.item, p.to.item
	if p.from.content == p.to.content {
		return
	}
	if old.Head != young.Head {
		d.ops = append(d.ops, api.Op{Kind: api.OHead, Path: p.to.path, Text: young.Head})
	}
	for i := len(old.Lines) - 1; i >= 0; i-- {
		if !slices.ContainsFunc(p.lines, func(x pair) bool { return x.from == i }) {
			d.ops = append(d.ops, api.Op{Kind: api.ODrop, Path: p.to.path, Line: i})
		}
	}
	for i, x := range p.lines {
		if old.Lines[x.from] != young.Lines[x.to] {
			d.ops = append(d.ops, api.Op{Kind: api.OLine, Path: p.to.path, Line: i, Text: young.Lines[x.to]})
		}
	}
	for k, text := range young.Lines {
		if !slices.ContainsFunc(p.lines, func(x pair) bool { return x.to == k }) {
			d.ops = append(d.ops, api.Op{Kind: api.OAdd, Path: p.to.path, Line: k, Text: text})
		}
	}
}
