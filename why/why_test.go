package why

import (
	"math"
	"math/rand"
	"reflect"
	"slices"
	"strings"
	"testing"
	"time"

	"statute/api"
	"statute/reason"
)

func strict(head int, body ...int) reason.Rule {
	return reason.Rule{Kind: api.Strict, Head: head, Body: body}
}

func usual(head int, body ...int) reason.Rule {
	return reason.Rule{Kind: api.Defeasible, Head: head, Body: body}
}

func against(head int, body ...int) reason.Rule {
	return reason.Rule{Kind: api.Defeater, Head: head, Body: body}
}

// theoryOf the names p, q and r.
func theoryOf(over [][2]int, rules ...reason.Rule) reason.Theory {
	return reason.Theory{Names: 3, Rules: rules, Over: over}
}

// checkLists of steps, which are read from texts in which `, ` stands between two of them.
func checkLists(t *testing.T, theory reason.Theory, lists map[string]bool) {
	t.Helper()
	for text, want := range lists {
		l, err := Read(strings.ReplaceAll(text, ", ", "\n"), []string{"p", "q", "r"})
		if err != nil {
			t.Fatalf("%s: %v", text, err)
		}
		if ok, err := Check(theory, l); ok != want || err != nil {
			t.Errorf("%s: %v, %v", text, ok, err)
		}
	}
}

func TestP90Sure(t *testing.T) {
	checkLists(t, theoryOf(nil, strict(1), strict(2, 1, -3), strict(-3, 1)), map[string]bool{
		"":                           true,
		"sure p":                     true,
		"sure not p":                 false,
		"sure p, sure not r":         true,
		"sure not r":                 false,
		"sure not r, sure p":         false,
		"sure p, sure q":             false,
		"sure p, sure not r, sure q": true,
		"sure p, holds p, not sure r, holds not r, sure q": false,
		"sure p, sure p":         true,
		"sure p, sure p, sure q": false,
		"sure p, sure not r, sure p, sure q, sure not r, sure q": true,
		"sure p, sure not r, not sure not r, sure q":             false,
		"sure p, not sure p": false,
	})
}

func TestP90NotSure(t *testing.T) {
	checkLists(t, theoryOf(nil, strict(1, 2), strict(1, -2, 3), usual(1), against(1)), map[string]bool{
		"not sure q":                             true,
		"not sure p":                             false,
		"not sure q, not sure p":                 false,
		"not sure r, not sure p":                 false,
		"not sure q, not sure not q, not sure p": true,
		"not sure q, not sure r, not sure p":     true,
		"not sure q, not sure q, not sure p":     false,
		"not sure r, not sure p, not sure q":     false,
		"not sure q, not sure r, sure p":         false,
	})
	checkLists(t, theoryOf(nil, strict(1, 1)), map[string]bool{
		"sure p":                 false,
		"not sure p":             false,
		"not sure p, not sure p": false,
		"not sure not p":         true,
	})
}

func TestP90Holds(t *testing.T) {
	checkLists(t, theoryOf(nil, strict(1)), map[string]bool{
		"holds p":                 false,
		"sure p, holds p":         true,
		"not sure not p, holds p": true,
		"holds p, sure p":         false,
	})
	// p against what fails, and against a defeater that it is above.
	checkLists(t, theoryOf([][2]int{{0, 2}}, usual(1), usual(-1, 2), against(-1, 3), usual(3)), map[string]bool{
		"holds p":                 false,
		"not sure not p, holds p": false,
		"not sure q, fails q, not sure not p, holds p": true,
		"not sure not p, not sure q, fails q, holds p": true,
		"not sure q, fails q, holds p":                 false,
		"not sure not p, not sure q, holds p":          false,
		"not sure p, not sure q, fails q, holds p":     false,
	})
	// The rule that is above is not the one that carries.
	checkLists(t, theoryOf([][2]int{{0, 1}}, usual(1, 2), usual(-1), usual(2), usual(1)), map[string]bool{
		"not sure not p, holds p":                          false,
		"not sure not p, not sure not q, holds p":          false,
		"not sure not p, not sure not q, holds q, holds p": true,
		"not sure not q, holds q, holds p":                 false,
	})
}

func TestP90FailsByWhatIsSure(t *testing.T) {
	checkLists(t, theoryOf([][2]int{{1, 0}}, strict(-1, 2), usual(1), strict(2)), map[string]bool{
		"fails p":             false,
		"not sure p, fails p": false,
		"sure q, sure not p, not sure p, fails p":     true,
		"sure q, sure not p, fails p":                 false,
		"not sure p, sure q, sure not p, fails p":     true,
		"sure q, holds q, not sure p, fails p":        false,
		"sure q, sure not p, not sure p, holds not p": true,
	})
}

func TestP90FailsAsNoRuleHolds(t *testing.T) {
	checkLists(t, theoryOf(nil, usual(1, 2), strict(1, 3, 2), against(1)), map[string]bool{
		"not sure q, not sure p, fails p":                      false,
		"not sure q, not sure p, fails q, fails p":             true,
		"not sure q, fails q, fails p":                         false,
		"not sure r, fails r, not sure p, fails p":             false,
		"not sure r, fails r, not sure p, not sure q, fails q": true,
		"not sure q, fails q, fails p, not sure p":             false,
		"not sure q, not sure p, fails q, fails p, fails p":    true,
		"not sure not p, fails not p":                          true,
		"not sure not p, fails not p, not sure q, holds not p": false,
		"not sure q, not sure p, not sure not q, fails not q":  true,
		"not sure q, not sure p, not sure not q, fails p":      false,
		"not sure q, not sure p, fails q, fails p, holds p":    false,
		"not sure r, not sure p, not sure q, fails r, fails p": false,
		"not sure r, not sure p, not sure q, fails q, fails p": true,
		"not sure r, not sure p, fails q, not sure q, fails p": false,
	})
}

func TestP90FailsByAnotherRule(t *testing.T) {
	checkLists(t, theoryOf([][2]int{{3, 1}}, usual(1), against(-1, 2), usual(2), usual(1, 3)), map[string]bool{
		"not sure p, fails p":                                               false,
		"not sure p, not sure not q, holds q, fails p":                      false,
		"not sure p, not sure r, fails r, fails p":                          false,
		"not sure p, not sure not q, holds q, not sure r, fails r, fails p": true,
		"not sure not q, holds q, not sure r, fails r, fails p":             false,
		"not sure p, not sure not q, holds q, not sure r, fails p":          false,
		"not sure not p, holds p":                                           false,
	})
}

func TestP90LiteralsThatAreNone(t *testing.T) {
	theory := theoryOf(nil, strict(1))
	for _, q := range []int{0, 4, -4, math.MaxInt, math.MinInt} {
		for i := range 4 {
			s := Step{i&1 == 0, i&2 == 0, q}
			if ok, err := Check(theory, []Step{s}); ok || err != nil {
				t.Errorf("%+v: %v, %v", s, ok, err)
			}
			if ok, err := Check(theory, []Step{{true, true, 1}, s}); ok || err != nil {
				t.Errorf("%+v behind another: %v, %v", s, ok, err)
			}
			if l, ok, err := Explain(theory, s); l != nil || ok || err != nil {
				t.Errorf("%+v: %v, %v, %v", s, l, ok, err)
			}
		}
	}
	if ok, err := Check(reason.Theory{}, []Step{{true, false, 1}}); ok || err != nil {
		t.Error("without names: ", ok, err)
	}
}

func TestP90P91ErrorsOfValid(t *testing.T) {
	for want, theory := range map[error]reason.Theory{
		api.ErrBound: {Names: api.MaxNames + 1},
		api.ErrKind:  {Names: 1, Rules: []reason.Rule{{Kind: 3, Head: 1}}},
		api.ErrName:  {Names: 1, Rules: []reason.Rule{strict(2)}},
		api.ErrOrder: {Names: 1, Rules: []reason.Rule{strict(1)}, Over: [][2]int{{0, 0}}},
	} {
		for _, l := range [][]Step{nil, {{true, true, 1}}, {{true, true, 9}}} {
			if ok, err := Check(theory, l); ok || err != want {
				t.Errorf("Check of %+v: %v, %v, want %v", l, ok, err, want)
			}
		}
		for _, s := range []Step{{}, {true, true, 1}, {true, false, -1}} {
			if l, ok, err := Explain(theory, s); l != nil || ok || err != want {
				t.Errorf("Explain %+v: %v, %v, %v, want %v", s, l, ok, err, want)
			}
		}
	}
	if ok, err := Check(reason.Theory{}, []Step{}); !ok || err != nil {
		t.Error("nothing of nothing: ", ok, err)
	}
}

// sentences tell, as those of P81 stand, whether a step follows from others.
type sentences struct {
	rules []reason.Rule
	over  [][2]int
	ahead []Step
}

func (x sentences) has(sure, says bool, q int) bool {
	return slices.Contains(x.ahead, Step{sure, says, q})
}

func (x sentences) whole(sure bool) func(i int) bool {
	return func(i int) bool {
		return !slices.ContainsFunc(x.rules[i].Body, func(q int) bool { return !x.has(sure, true, q) })
	}
}

func (x sentences) broken(sure bool) func(i int) bool {
	return func(i int) bool {
		return slices.ContainsFunc(x.rules[i].Body, func(q int) bool { return x.has(sure, false, q) })
	}
}

// rulesFor a literal of which something is so.
func (x sentences) rulesFor(q int, is func(i int) bool) []int {
	var list []int
	for i, r := range x.rules {
		if r.Head == q && is(i) {
			list = append(list, i)
		}
	}
	return list
}

func all(list []int, is func(i int) bool) bool {
	return !slices.ContainsFunc(list, func(i int) bool { return !is(i) })
}

func (x sentences) follows(s Step) bool {
	q := s.Literal
	strict := x.rulesFor(q, func(i int) bool { return x.rules[i].Kind == api.Strict })
	carrying := x.rulesFor(q, func(i int) bool { return x.rules[i].Kind != api.Defeater })
	opposed := x.rulesFor(-q, func(int) bool { return true })
	above := func(k int) []int {
		return x.rulesFor(q, func(i int) bool { return x.rules[i].Kind != api.Defeater && slices.Contains(x.over, [2]int{i, k}) })
	}
	holds, fails := x.whole(false), x.broken(false)
	switch {
	case s.Sure && s.Says:
		return slices.ContainsFunc(strict, x.whole(true))
	case s.Sure:
		return all(strict, x.broken(true))
	case s.Says:
		return x.has(true, true, q) || x.has(true, false, -q) && slices.ContainsFunc(carrying, holds) &&
			all(opposed, func(k int) bool { return fails(k) || slices.ContainsFunc(above(k), holds) })
	}
	return x.has(true, false, q) && (x.has(true, true, -q) || all(carrying, fails) ||
		slices.ContainsFunc(opposed, func(k int) bool { return holds(k) && all(above(k), fails) }))
}

func right(theory reason.Theory, l []Step) bool {
	for i, s := range l {
		if !(sentences{theory.Rules, theory.Over, l[:i]}).follows(s) {
			return false
		}
	}
	return true
}

// thrown is a theory by chance, in which a rule is above others only if it stands ahead of them.
func thrown(rng *rand.Rand) reason.Theory {
	t := reason.Theory{Names: 1 + rng.Intn(4)}
	literal := func() int { return (1 + rng.Intn(t.Names)) * (1 - 2*rng.Intn(2)) }
	for range rng.Intn(14) {
		r := reason.Rule{Kind: []int{api.Strict, api.Defeasible, api.Defeasible, api.Defeater}[rng.Intn(4)], Head: literal()}
		for range rng.Intn(3) {
			r.Body = append(r.Body, literal())
		}
		t.Rules = append(t.Rules, r)
	}
	for range rng.Intn(20) {
		if first := rng.Intn(len(t.Rules) + 1); first+1 < len(t.Rules) {
			t.Over = append(t.Over, [2]int{first, first + 1 + rng.Intn(len(t.Rules)-first-1)})
		}
	}
	return t
}

// allSteps that can be asked of a theory.
func allSteps(names int) []Step {
	var l []Step
	for q := -names; q <= names; q++ {
		for i := range 4 {
			if q != 0 {
				l = append(l, Step{i&1 == 0, i&2 == 0, q})
			}
		}
	}
	return l
}

func TestP90AsTheSentencesSay(t *testing.T) {
	rng := rand.New(rand.NewSource(90))
	var met [2]int
	for range 20000 {
		theory := thrown(rng)
		every := allSteps(theory.Names)
		var l []Step
		for range 4 {
			more, _, err := Explain(theory, every[rng.Intn(len(every))])
			if err != nil {
				t.Fatalf("%+v: %v", theory, err)
			}
			l = append(l, more...)
		}
		for range rng.Intn(4) {
			at := rng.Intn(len(l) + 1)
			switch what := rng.Intn(3); {
			case what == 0:
				l = slices.Insert(l, at, every[rng.Intn(len(every))])
			case at < len(l) && what == 1:
				l = slices.Delete(l, at, at+1)
			case at < len(l):
				other := rng.Intn(len(l))
				l[at], l[other] = l[other], l[at]
			}
		}
		want := right(theory, l)
		if ok, err := Check(theory, l); ok != want || err != nil {
			t.Fatalf("%+v: %+v: %v, %v, want %v", theory, l, ok, err, want)
		}
		if want && len(l) > 2 {
			met[1]++
		} else if !want {
			met[0]++
		}
	}
	if met[0] < 2000 || met[1] < 2000 {
		t.Errorf("only %d wrong and %d right lists", met[0], met[1])
	}
}

// isTold tells whether what is known of a theory says a step.
func isTold(k reason.Known, s Step) bool {
	list, at, want := k.Holds, 2*s.Literal-2, api.No
	if s.Sure {
		list = k.Sure
	}
	if s.Literal < 0 {
		at = -2*s.Literal - 1
	}
	if s.Says {
		want = api.Yes
	}
	return list[at] == want
}

func checkExplained(t *testing.T, theory reason.Theory) {
	t.Helper()
	k, err := reason.Solve(theory)
	if err != nil {
		t.Fatalf("%+v: %v", theory, err)
	}
	for _, s := range allSteps(theory.Names) {
		l, ok, err := Explain(theory, s)
		if ok != isTold(k, s) || err != nil {
			t.Fatalf("%+v: %+v: %v, %v", theory, s, ok, err)
		}
		if !ok {
			if l != nil {
				t.Fatalf("%+v: %+v: false, and %+v", theory, s, l)
			}
			continue
		}
		if !right(theory, l) || l[len(l)-1] != s {
			t.Fatalf("%+v: %+v: %+v", theory, s, l)
		}
		for i, step := range l {
			if slices.Contains(l[:i], step) {
				t.Fatalf("%+v: %+v: %+v stands twice", theory, s, step)
			}
		}
	}
}

func TestP91WhatFollowsIsExplained(t *testing.T) {
	checkExplained(t, reason.Theory{})
	checkExplained(t, reason.Theory{Names: 2})
	checkExplained(t, theoryOf(nil, strict(1), strict(-1), usual(2, 1), usual(3, 3)))
	rng := rand.New(rand.NewSource(91))
	for range 5000 {
		checkExplained(t, thrown(rng))
	}
}

func TestP91OnlyWhatIsNeeded(t *testing.T) {
	theory := theoryOf(nil, strict(1), usual(2, 1), strict(3))
	l, ok, err := Explain(theory, Step{Says: true, Literal: 2})
	if !ok || err != nil || len(l) != 4 {
		t.Fatal(l, ok, err)
	}
	for i := range l {
		if less := slices.Delete(slices.Clone(l), i, i+1); i < 3 && right(theory, less) {
			t.Errorf("step %d of %+v is not needed", i, l)
		}
	}
}

func TestP91LongWays(t *testing.T) {
	theory := reason.Theory{Names: api.MaxNames, Rules: []reason.Rule{usual(api.MaxNames)}}
	for i := 1; i < api.MaxNames; i++ {
		theory.Rules = append(theory.Rules, usual(i, slices.Repeat([]int{i + 1}, api.MaxNames)...))
	}
	start := time.Now()
	for _, s := range allSteps(theory.Names) {
		l, ok, err := Explain(theory, s)
		if want := s.Says == (s.Literal > 0 && !s.Sure); ok != want || err != nil {
			t.Fatalf("%+v: %v, %v", s, ok, err)
		}
		if right, err := Check(theory, l); !right || err != nil {
			t.Fatalf("%+v: %+v: %v, %v", s, l, right, err)
		}
	}
	if took := time.Since(start); took > 20*time.Second {
		t.Errorf("it took %v", took)
	}
}

func TestP1LongLists(t *testing.T) {
	theory := theoryOf(nil, slices.Repeat([]reason.Rule{strict(1, 2, 3)}, api.MaxRules)...)
	l := slices.Repeat([]Step{{true, false, 2}, {true, false, 1}, {true, false, -1}}, 300000)
	start := time.Now()
	if ok, err := Check(theory, l); !ok || err != nil {
		t.Error(ok, err)
	}
	if took := time.Since(start); took > 5*time.Second {
		t.Errorf("it took %v", took)
	}
}

func TestP4OnlyReadAndNewMemory(t *testing.T) {
	rng := rand.New(rand.NewSource(4))
	for range 500 {
		seed := rng.Int63()
		theory := thrown(rand.New(rand.NewSource(seed)))
		every := allSteps(theory.Names)
		s := every[rng.Intn(len(every))]
		l, ok, _ := Explain(theory, s)
		kept := slices.Clone(l)
		if right, _ := Check(theory, l); !right || !slices.Equal(l, kept) {
			t.Fatalf("%+v: %v, %v became %v", theory, right, kept, l)
		}
		for i := range l {
			l[i] = Step{true, true, 9}
		}
		if again, is, _ := Explain(theory, s); is != ok || !slices.Equal(again, kept) {
			t.Fatalf("%+v: %v, then %v", theory, kept, again)
		}
		if same := thrown(rand.New(rand.NewSource(seed))); !reflect.DeepEqual(theory, same) {
			t.Fatalf("%+v became %+v", same, theory)
		}
	}
}
