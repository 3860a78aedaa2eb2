package reason

// claim is one of the four things that are shown of literals: SURE (says) or NOT SURE; where sure is false, HOLDS (says) or FAILS.
type claim struct {
	sure, says bool
	literal    int
}

// follow tells what follows of a valid theory: each claim once, behind those that it follows from.
func follow(t Theory, tell func(claim)) {
	literals := literalsOf(t)
	more := false
	show := func(c claim) {
		q := &literals[place(c.literal)]
		if q.isSettled(c.sure) || !q.follows(c) {
			return
		}
		q.take(c)
		tell(c)
		more = true
	}
	showBoth := func(of int) {
		for _, q := range [...]int{of, -of} {
			show(claim{true, true, q})
			show(claim{true, false, q})
			show(claim{false, true, q})
			show(claim{false, false, q})
		}
	}
	// Names that no rule is about are settled by this alone.
	for name := range t.Names {
		showBoth(name + 1)
	}
	for more {
		more = false
		for rule := range len(t.Rules) {
			showBoth(t.Rules[rule].Head)
		}
	}
}
