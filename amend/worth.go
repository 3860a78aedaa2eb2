package amend

// replaceCost is how many changes it takes that one provision goes and another one comes.
const replaceCost = 2

// stake is what is gained, in changes, if a provision becomes its mate: its own changes are fewer than if it went and the other one came, but then each that lies in one of them is to be changed for itself. That can be told only of all together: what lies in a couple may be worth more than the couple costs, and it is to be had only with those around it, in both laws.
type stake struct {
	x      *tree
	left   int // what is gained, less what was given away; below 0: what is to be paid yet
	around [2]*stake
	given  [2]int // to those around it
	inner  []*stake
	seen   int // in which round it was looked at last
}

// stakes of all couples but the laws.
func stakes(from []*tree) []*stake {
	of := make([]*stake, len(from))
	var list []*stake
	for _, x := range from {
		if x.mate == nil || x.outer == nil {
			continue
		}
		s := &stake{x: x, left: replaceCost - own(x) - len(x.kids) - len(x.mate.kids)}
		of[x.number] = s
		list = append(list, s)
	}
	for _, s := range list {
		s.around = [2]*stake{of[s.x.outer.number], of[s.x.mate.outer.mate.number]}
		for _, outer := range s.around {
			if outer != nil {
				outer.inner = append(outer.inner, s)
			}
		}
	}
	return list
}

// own is how many changes a provision needs for itself to become its mate.
func own(x *tree) int {
	n := textCost(x, x.mate)
	if x.label() != x.mate.label() {
		n++
	}
	if !x.isInPlace() || !x.inOrder {
		n++
	}
	return n
}

// pay gives one to a stake that needs it: to one around it, or back to one in it that gave too much; it tells whether there was any. In a round each is asked once.
func (s *stake) pay(round int) bool {
	s.seen = round
	if s.left < 0 {
		s.left++
		return true
	}
	for i, outer := range s.around {
		if outer != nil && outer.seen != round && outer.pay(round) {
			s.given[i]++
			return true
		}
	}
	for _, inner := range s.inner {
		for i, outer := range inner.around {
			if outer == s && inner.given[i] > 0 && inner.seen != round && inner.pay(round) {
				inner.given[i]--
				return true
			}
		}
	}
	return false
}

// keepWorthy parts the couples that are not worth it. What some gain pays what those around them cost, as far as it goes; where something is left over, it stays, with all that was paid for.
func keepWorthy(from []*tree) {
	list := stakes(from)
	round := 1
	for _, s := range list {
		for ; s.left > 0 && s.pay(round); round++ {
			s.left--
		}
		round++
	}
	for _, s := range list {
		if s.left > 0 && s.seen != round {
			s.pay(round)
		}
	}
	for _, s := range list {
		if s.seen != round {
			part(s.x)
		}
	}
}

// markOrder tells which kids of couples stay in order.
func markOrder(from []*tree) {
	for _, x := range from {
		if x.mate == nil {
			continue
		}
		for _, kid := range x.kids {
			if kid.mate != nil {
				kid.setOrder(false)
			}
		}
		for _, kid := range x.stayers() {
			kid.setOrder(true)
		}
	}
}

// setOrder of a tree and its mate.
func (t *tree) setOrder(inOrder bool) { t.inOrder, t.mate.inOrder = inOrder, inOrder }

// stayers are the kids that stay with it, in order: as many as can.
func (t *tree) stayers() []*tree {
	var list, inOrder []*tree
	for _, kid := range t.kids {
		if kid.mate != nil && kid.isInPlace() {
			list = append(list, kid)
		}
	}
	for _, i := range rising(len(list), func(i int) int { return list[i].mate.place }) {
		inOrder = append(inOrder, list[i])
	}
	return inOrder
}
