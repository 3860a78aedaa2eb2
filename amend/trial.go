package amend

// trial is what came of couples that were tried.
type trial struct {
	all    []*tree // the mate of each, as far as there is one
	worthy []*tree // the same, but for couples that are not worth it
	count  int     // how many changes these take, if none is in another one's way
}

// weigh couples what has no mate, and then finds out what is worth it, until that makes no fewer changes.
func (v *view) weigh() trial {
	v.fill()
	t := trial{all: v.couples()}
	t.count = v.prune()
	t.worthy = v.couples()
	for {
		v.fill()
		count := v.prune()
		if count >= t.count {
			break
		}
		t.count, t.worthy = count, v.couples()
	}
	v.restore(t.all)
	return t
}

// take makes a trial the best one, if it takes fewer changes than the best one so far; it tells whether it does.
func (v *view) take(t trial) bool {
	if t.count >= len(v.ops) {
		return false
	}
	v.restore(t.worthy)
	ops, ok := changes(v.from, v.to)
	v.restore(t.all)
	if !ok || len(ops) >= len(v.ops) {
		return false
	}
	v.trial, v.ops = t, ops
	return true
}

// fill couples what has no mate.
func (v *view) fill() {
	for v.pairStrays(true) || v.pairStrays(false) {
	}
	v.pairLeft()
	for v.pairStrays(true) || v.pairStrays(false) {
	}
}

// prune parts the couples that are not worth it; it tells how many changes there are then.
func (v *view) prune() int {
	markOrder(v.from)
	keepWorthy(v.from)
	markOrder(v.from)
	return v.total()
}

// total of the changes that the couples take.
func (v *view) total() int {
	n := len(textChanges("", v.from[0].item, v.to[0].item))
	for _, x := range v.from {
		if x.isExposed() {
			n++
		} else if x.mate != nil && x.outer != nil {
			n += own(x)
		}
	}
	for _, y := range v.to {
		if y.isExposed() {
			n++
		}
	}
	return n
}

// couples that there are: the mate of each.
func (v *view) couples() []*tree {
	list := make([]*tree, len(v.from))
	for i, x := range v.from {
		list[i] = x.mate
	}
	return list
}

// restore makes those couples again.
func (v *view) restore(mates []*tree) {
	for _, y := range v.to {
		y.mate = nil
	}
	for i, x := range v.from {
		x.mate = mates[i]
		if x.mate != nil {
			x.mate.mate = x
		}
	}
	markOrder(v.from)
}
