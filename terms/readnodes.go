package terms

import "statute/api"

// enter takes a word or a sign within which others stand.
func (r *reader) enter() string {
	if r.nest == api.MaxNest {
		r.wrong(api.ErrBound)
	}
	r.nest++
	return r.skip()
}

// leave takes the sign up to which others stand within something.
func (r *reader) leave(text string) {
	r.need(text)
	r.nest--
}

func (r *reader) either() Node {
	n := r.both()
	for r.take(or) {
		n = Node{Kind: or, Kids: []Node{n, r.both()}}
	}
	return n
}

func (r *reader) both() Node {
	n := r.unless()
	for r.take(and) {
		n = Node{Kind: and, Kids: []Node{n, r.unless()}}
	}
	return n
}

func (r *reader) unless() Node {
	if !r.is(not) {
		return r.test()
	}
	r.enter()
	n := Node{Kind: not, Kids: []Node{r.unless()}}
	r.nest--
	return n
}

func (r *reader) test() Node {
	switch {
	case r.is(opening):
		r.enter()
		n := r.either()
		r.leave(closing)
		return n
	case r.is(some), r.is(every):
		return r.ofOthers()
	case r.isNameAlone():
		return Node{Kind: nameKind, Word: r.name()}
	}
	return r.comparison()
}

// ofOthers takes a condition of somebody else.
func (r *reader) ofOthers() Node {
	n := Node{Kind: r.enter()}
	n.Word = r.name()
	r.need(opening)
	n.Kids = []Node{r.either()}
	r.leave(closing)
	return n
}

// isNameAlone tells whether a name stands there that does not begin a sum.
func (r *reader) isNameAlone() bool {
	if !r.tokens[0].isName() {
		return false
	}
	behind := r.tokens[1].text
	return !isOrder(behind) && !isOfSums(behind)
}

func (r *reader) comparison() Node {
	left := r.sum()
	if !isOrder(r.tokens[0].text) {
		r.wrong(api.ErrText)
	}
	kind := r.skip()
	return Node{Kind: kind, Kids: []Node{left, r.sum()}}
}

func (r *reader) sum() Node {
	n := r.part()
	for r.is(plus) || r.is(minus) {
		kind := r.skip()
		n = Node{Kind: kind, Kids: []Node{n, r.part()}}
	}
	return n
}

func (r *reader) part() Node {
	n := r.factor()
	for r.take(times) {
		n = Node{Kind: times, N: r.rate(), Kids: []Node{n}}
	}
	return n
}

// rate takes a number and its percent sign: only with it the number is a rate, and can be too great for one.
func (r *reader) rate() int {
	at := r.tokens[0].at
	n := r.number()
	r.need(percent)
	if n > api.MaxRate {
		throw(&api.Fault{At: at, Err: api.ErrBound})
	}
	return n
}

func (r *reader) factor() Node {
	switch {
	case r.tokens[0].kind == aNumber:
		return Node{Kind: numberKind, N: r.number()}
	case r.take(count):
		return Node{Kind: count, Word: r.name()}
	case r.take(total):
		return r.total()
	case r.is(maximum), r.is(minimum):
		return r.greatest()
	case r.is(squareOpening):
		r.enter()
		n := r.sum()
		r.leave(squareClosing)
		return n
	}
	return Node{Kind: nameKind, Word: r.name()}
}

// total takes what is added, and of whom.
func (r *reader) total() Node {
	n := Node{Kind: total, Word: r.name()}
	r.need(of)
	n.Kids = []Node{{Kind: nameKind, Word: r.name()}}
	return n
}

// greatest takes two sums of which the greater, or the less, counts.
func (r *reader) greatest() Node {
	n := Node{Kind: r.enter()}
	r.need(opening)
	n.Kids = append(n.Kids, r.sum())
	r.need(comma)
	n.Kids = append(n.Kids, r.sum())
	r.leave(closing)
	return n
}
