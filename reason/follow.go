package reason

// Claim is one of the four things that are shown of literals: Sure: SURE (Says) or NOT SURE; else HOLDS (Says) or FAILS.
type Claim struct {
	Sure, Says bool
	Literal    int
}

// Follow tells what follows of a theory: each claim once, behind those that it follows from, which are told with it. Valid's errors.
func Follow(t Theory, tell func(c Claim, from []Claim)) error {
	if err := Valid(t); err != nil {
		return err
	}
	follow(t, tell)
	return nil
}

// follow is Follow for a theory that is known to be valid.
func follow(t Theory, tell func(c Claim, from []Claim)) {
	literals := literalsOf(t)
	more := false
	show := func(c Claim) {
		q := &literals[Place(c.Literal)]
		if q.isSettled(c.Sure) {
			return
		}
		if from, ok := q.from(c); ok {
			q.take(c)
			tell(c, from)
			more = true
		}
	}
	showBoth := func(of int) {
		for _, q := range [...]int{of, -of} {
			show(Claim{true, true, q})
			show(Claim{true, false, q})
			show(Claim{false, true, q})
			show(Claim{false, false, q})
		}
	}
	// Names that no rule is about are settled by this alone.
	for name := range t.Names {
		showBoth(name + 1)
	}
	for more {
		more = false
		for rule := range len(t.Rules) {
			showBoth(t.Rules[rule].Head)
		}
	}
}

// Right tells whether each claim of a list follows from those ahead of it alone; of a literal that is none, nothing does. Valid's errors.
func Right(t Theory, claims []Claim) (bool, error) {
	if err := Valid(t); err != nil {
		return false, err
	}
	literals := literalsOf(t)
	for _, c := range claims {
		if t.hasNot(c.Literal) {
			return false, nil
		}
		q := &literals[Place(c.Literal)]
		if q.has(c) {
			continue
		}
		if _, ok := q.from(c); !ok {
			return false, nil
		}
		q.take(c)
	}
	return true, nil
}
