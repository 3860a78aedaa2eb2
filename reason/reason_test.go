package reason

import (
	"math/rand"
	"reflect"
	"slices"
	"testing"
	"time"

	"statute/api"
)

const (
	yes  = api.Yes
	no   = api.No
	open = api.Open
)

// solved is what follows of a theory that must be valid.
func solved(t *testing.T, theory Theory) Known {
	t.Helper()
	k, err := Solve(theory)
	if err != nil {
		t.Fatalf("%+v: %v", theory, err)
	}
	return k
}

// expect what follows.
type expect struct {
	names       int
	rules       []Rule
	over        [][2]int
	sure, holds []int
}

func checkAll(t *testing.T, cases map[string]expect) {
	t.Helper()
	for what, c := range cases {
		k := solved(t, Theory{c.names, c.rules, c.over})
		if !slices.Equal(k.Sure, c.sure) || !slices.Equal(k.Holds, c.holds) {
			t.Errorf("%s: %v, want %v and %v", what, k, c.sure, c.holds)
		}
	}
}

func TestP81Sure(t *testing.T) {
	checkAll(t, map[string]expect{
		"no names":            {0, nil, nil, nil, nil},
		"no rules":            {2, nil, nil, []int{no, no, no, no}, []int{no, no, no, no}},
		"a fact":              {1, []Rule{strict(1)}, nil, []int{yes, no}, []int{yes, no}},
		"of an opposite":      {1, []Rule{strict(-1)}, nil, []int{no, yes}, []int{no, yes}},
		"all of a body":       {3, []Rule{strict(3, 1, -2), strict(1), strict(-2)}, nil, []int{yes, no, no, yes, yes, no}, []int{yes, no, no, yes, yes, no}},
		"not all of it":       {3, []Rule{strict(3, 1, 2), strict(1)}, nil, []int{yes, no, no, no, no, no}, []int{yes, no, no, no, no, no}},
		"one literal often":   {2, []Rule{strict(2, 1, 1, 1), strict(1)}, nil, []int{yes, no, yes, no}, []int{yes, no, yes, no}},
		"of two rules one":    {2, []Rule{strict(2, -1), strict(2, 1), strict(1)}, nil, []int{yes, no, yes, no}, []int{yes, no, yes, no}},
		"a ring":              {2, []Rule{strict(1, 2), strict(2, 1)}, nil, []int{open, no, open, no}, []int{open, no, open, no}},
		"a ring that fails":   {3, []Rule{strict(1, 2), strict(2, 1, 3)}, nil, []int{no, no, no, no, no, no}, []int{no, no, no, no, no, no}},
		"a ring that is met":  {2, []Rule{strict(1, 2), strict(2, 1), strict(1)}, nil, []int{yes, no, yes, no}, []int{yes, no, yes, no}},
		"both":                {1, []Rule{strict(1), strict(-1)}, nil, []int{yes, yes}, []int{yes, yes}},
		"only by strict ones": {2, []Rule{usual(1), strict(2, 1)}, nil, []int{no, no, no, no}, []int{yes, no, yes, no}},
		"not by a defeater":   {1, []Rule{against(1)}, nil, []int{no, no}, []int{no, no}},
	})
}

func TestP81Holds(t *testing.T) {
	checkAll(t, map[string]expect{
		"nothing against":        {1, []Rule{usual(1)}, nil, []int{no, no}, []int{yes, no}},
		"each in the way":        {1, []Rule{usual(1), usual(-1)}, nil, []int{no, no}, []int{no, no}},
		"above":                  {1, []Rule{usual(1), usual(-1)}, [][2]int{{1, 0}}, []int{no, no}, []int{no, yes}},
		"above, but not met":     {2, []Rule{usual(1), usual(-1, 2)}, [][2]int{{1, 0}}, []int{no, no, no, no}, []int{yes, no, no, no}},
		"defeater":               {1, []Rule{usual(1), against(-1)}, nil, []int{no, no}, []int{no, no}},
		"defeater not met":       {2, []Rule{usual(1), against(-1, 2)}, nil, []int{no, no, no, no}, []int{yes, no, no, no}},
		"above a defeater":       {1, []Rule{usual(1), against(-1)}, [][2]int{{0, 1}}, []int{no, no}, []int{yes, no}},
		"defeater above":         {1, []Rule{usual(1), usual(-1), against(1)}, [][2]int{{2, 1}}, []int{no, no}, []int{no, no}},
		"a team":                 {1, []Rule{usual(1), usual(1), usual(-1), usual(-1)}, [][2]int{{0, 2}, {1, 3}}, []int{no, no}, []int{yes, no}},
		"half a team":            {1, []Rule{usual(1), usual(1), usual(-1), usual(-1)}, [][2]int{{0, 2}, {1, 2}}, []int{no, no}, []int{no, no}},
		"strict above":           {2, []Rule{strict(1, 2), usual(2), usual(-1)}, [][2]int{{0, 2}}, []int{no, no, no, no}, []int{yes, no, yes, no}},
		"strict, of what holds":  {2, []Rule{strict(1, 2), usual(2), usual(-1)}, nil, []int{no, no, no, no}, []int{no, no, yes, no}},
		"above what is sure":     {1, []Rule{usual(1), strict(-1)}, [][2]int{{0, 1}}, []int{no, yes}, []int{no, yes}},
		"below one for another":  {2, []Rule{usual(1), usual(-1), usual(2)}, [][2]int{{2, 1}}, []int{no, no, no, no}, []int{no, no, yes, no}},
		"above one for the same": {1, []Rule{usual(1), usual(-1), usual(-1)}, [][2]int{{1, 2}}, []int{no, no}, []int{no, no}},
		"blocked, so no block":   {2, []Rule{usual(1), usual(-1), usual(2), usual(-2, 1)}, nil, []int{no, no, no, no}, []int{no, no, yes, no}},
		"the document's example": {3, []Rule{usual(1, 2), usual(-1, 3), usual(2), usual(3)}, [][2]int{{1, 0}}, same(6, no), []int{no, yes, yes, no, yes, no}},
		"pairs told twice":       {1, []Rule{usual(1), usual(-1)}, [][2]int{{1, 0}, {1, 0}}, []int{no, no}, []int{no, yes}},
	})
}

func TestP81AboveIsWhatThePairsSay(t *testing.T) {
	// Each is above the next one; by no pair is the first above the last, the only one whose body holds beside it.
	rules := []Rule{usual(1), usual(-1, 2), usual(1, 2), usual(-1)}
	k := solved(t, Theory{2, rules, [][2]int{{0, 1}, {1, 2}, {2, 3}}})
	if !slices.Equal(k.Holds, []int{no, no, no, no}) {
		t.Errorf("%v", k)
	}
	k = solved(t, Theory{2, rules, [][2]int{{0, 1}, {1, 2}, {2, 3}, {0, 3}}})
	if !slices.Equal(k.Holds, []int{yes, no, no, no}) {
		t.Errorf("with the pair: %v", k)
	}
}

func TestP81Open(t *testing.T) {
	checkAll(t, map[string]expect{
		"a ring":              {1, []Rule{usual(1, 1)}, nil, []int{no, no}, []int{open, no}},
		"a ring of two":       {2, []Rule{usual(1, 2), usual(2, 1)}, nil, []int{no, no, no, no}, []int{open, no, open, no}},
		"by its opposite":     {1, []Rule{usual(1, -1)}, nil, []int{no, no}, []int{no, no}},
		"against a ring":      {2, []Rule{usual(1), usual(-1, 2), usual(2, 2)}, nil, same(4, no), []int{open, no, open, no}},
		"above a ring":        {2, []Rule{usual(1), usual(-1, 2), usual(2, 2)}, [][2]int{{0, 1}}, same(4, no), []int{yes, no, open, no}},
		"ring in a defeater":  {2, []Rule{usual(1), against(-1, 2), usual(2, 2)}, nil, same(4, no), []int{open, no, open, no}},
		"ring above":          {2, []Rule{usual(1), usual(-1), usual(1, 2), usual(2, 2)}, [][2]int{{2, 1}}, same(4, no), []int{open, no, open, no}},
		"ring of strict":      {1, []Rule{strict(1, 1), usual(-1)}, nil, []int{open, no}, []int{open, open}},
		"and what is against": {2, []Rule{strict(1, 2), strict(2, 2), usual(-1), usual(1)}, [][2]int{{3, 2}}, []int{open, no, open, no}, []int{yes, no, open, no}},
		"ring of defeaters":   {1, []Rule{against(1, 1)}, nil, []int{no, no}, []int{no, no}},
	})
}

// shown is what a slow search has shown, by the four sentences of P81 as they stand.
type shown struct {
	theory Theory
	is     map[Claim]int
}

func (s *shown) has(sure, says bool, q int) bool { return s.is[Claim{sure, says, q}] == 1 }

func (s *shown) every(r Rule, sure, says bool) bool {
	for _, q := range r.Body {
		if !s.has(sure, says, q) {
			return false
		}
	}
	return true
}

func (s *shown) one(r Rule, sure, says bool) bool {
	return slices.ContainsFunc(r.Body, func(q int) bool { return s.has(sure, says, q) })
}

// rulesFor are the numbers of the rules for a literal that are of some kinds.
func (s *shown) rulesFor(q int, kinds ...int) []int {
	var list []int
	for i, r := range s.theory.Rules {
		if r.Head == q && slices.Contains(kinds, r.Kind) {
			list = append(list, i)
		}
	}
	return list
}

func (s *shown) canShow(c Claim) bool {
	q, rules := c.Literal, s.theory.Rules
	strict := s.rulesFor(q, api.Strict)
	carrying := s.rulesFor(q, api.Strict, api.Defeasible)
	opposed := s.rulesFor(-q, api.Strict, api.Defeasible, api.Defeater)
	holds := func(i int) bool { return s.every(rules[i], false, true) }
	fails := func(i int) bool { return s.one(rules[i], false, false) }
	above := func(k int) []int {
		return slices.DeleteFunc(slices.Clone(carrying), func(i int) bool { return !slices.Contains(s.theory.Over, [2]int{i, k}) })
	}
	all := func(list []int, is func(int) bool) bool {
		return !slices.ContainsFunc(list, func(i int) bool { return !is(i) })
	}
	switch {
	case c.Sure && c.Says:
		return slices.ContainsFunc(strict, func(i int) bool { return s.every(rules[i], true, true) })
	case c.Sure:
		return all(strict, func(i int) bool { return s.one(rules[i], true, false) })
	case c.Says:
		return s.has(true, true, q) || s.has(true, false, -q) && slices.ContainsFunc(carrying, holds) &&
			all(opposed, func(k int) bool { return fails(k) || slices.ContainsFunc(above(k), holds) })
	}
	return s.has(true, false, q) && (s.has(true, true, -q) || all(carrying, fails) ||
		slices.ContainsFunc(opposed, func(k int) bool { return holds(k) && all(above(k), fails) }))
}

// slowly is what follows of a theory, found in an order that is thrown.
func slowly(theory Theory, rng *rand.Rand) Known {
	s := &shown{theory, map[Claim]int{}}
	var all []Claim
	for q := 1; q <= theory.Names; q++ {
		for i := range 8 {
			all = append(all, Claim{i&1 == 0, i&2 == 0, q - 2*q*(i>>2)})
		}
	}
	for more := true; more; {
		more = false
		rng.Shuffle(len(all), func(i, k int) { all[i], all[k] = all[k], all[i] })
		for _, c := range all {
			if s.is[c] == 0 && s.canShow(c) {
				s.is[c], more = 1, true
			}
		}
	}
	k := Known{make([]int, 2*theory.Names), make([]int, 2*theory.Names)}
	for c := range s.is {
		list, at, what := k.Holds, 2*max(c.Literal, -c.Literal)-2, no
		if c.Sure {
			list = k.Sure
		}
		if c.Literal < 0 {
			at++
		}
		if c.Says {
			what = yes
		}
		list[at] += what // 3, if both were shown
	}
	return k
}

// thrown is a theory by chance; a rule is above another only if its number is lower by some order.
func thrown(rng *rand.Rand) Theory {
	t := Theory{Names: 1 + rng.Intn(6)}
	literal := func() int {
		q := 1 + rng.Intn(t.Names)
		if rng.Intn(2) == 0 {
			return -q
		}
		return q
	}
	kinds := []int{api.Strict, api.Defeasible, api.Defeasible, api.Defeasible, api.Defeater}
	for range rng.Intn(16) {
		r := Rule{Kind: kinds[rng.Intn(len(kinds))], Head: literal()}
		for range rng.Intn(4) {
			r.Body = append(r.Body, literal())
		}
		t.Rules = append(t.Rules, r)
	}
	order := rng.Perm(len(t.Rules))
	for range rng.Intn(20) {
		if len(order) < 2 {
			break
		}
		i := rng.Intn(len(order) - 1)
		k := i + 1 + rng.Intn(len(order)-i-1)
		t.Over = append(t.Over, [2]int{order[i], order[k]})
	}
	return t
}

func TestP81AsTheSentencesSay(t *testing.T) {
	rng := rand.New(rand.NewSource(81))
	met := map[int]int{}
	for range 20000 {
		theory := thrown(rng)
		k, want := solved(t, theory), slowly(theory, rng)
		if !reflect.DeepEqual(k, want) {
			t.Fatalf("%+v: %v, want %v", theory, k, want)
		}
		for i, what := range k.Holds {
			met[what]++
			if both := k.Holds[i^1]; what == yes && both == yes && (k.Sure[i] != yes || k.Sure[i^1] != yes) {
				t.Fatalf("%+v: both hold: %v", theory, k)
			}
		}
	}
	for _, what := range []int{open, yes, no} {
		if met[what] < 1000 {
			t.Errorf("%d met %d times only", what, met[what])
		}
	}
}

func TestP81ToldOnceAndInOrder(t *testing.T) {
	rng := rand.New(rand.NewSource(8))
	for range 5000 {
		theory := thrown(rng)
		s := &shown{theory, map[Claim]int{}}
		err := Follow(theory, func(c Claim, from []Claim) {
			if s.is[c] != 0 {
				t.Fatalf("%+v: %+v is told again", theory, c)
			}
			alone := &shown{theory, map[Claim]int{}}
			for _, f := range from {
				if s.is[f] == 0 {
					t.Fatalf("%+v: %+v is told ahead of %+v", theory, c, f)
				}
				alone.is[f] = 1
			}
			if !alone.canShow(c) {
				t.Fatalf("%+v: %+v does not follow from %+v alone", theory, c, from)
			}
			s.is[c] = 1
		})
		if err != nil {
			t.Fatalf("%+v: %v", theory, err)
		}
	}
}

func TestP80OfWhatIsTold(t *testing.T) {
	wrong := Theory{Names: -1}
	if err := Follow(wrong, func(Claim, []Claim) { t.Error("something is told") }); err != api.ErrBound {
		t.Error(err)
	}
	if ok, err := Right(wrong, nil); ok || err != api.ErrBound {
		t.Error(ok, err)
	}
}

// longWay is a theory in which each literal hangs on the next one, the worst in order of the rules.
func longWay(kind int) Theory {
	t := Theory{Names: api.MaxNames}
	for i := range api.MaxNames - 1 {
		t.Rules = append(t.Rules, Rule{kind, i + 1, same(api.MaxNames, i+2)})
	}
	t.Rules = append(t.Rules, Rule{kind, api.MaxNames, nil})
	return t
}

func TestP81LongWays(t *testing.T) {
	for _, kind := range []int{api.Strict, api.Defeasible} {
		theory := longWay(kind)
		k := solved(t, theory)
		for i := range 2 * api.MaxNames {
			want := []int{yes, no}[i%2]
			if k.Holds[i] != want || kind == api.Strict && k.Sure[i] != want || kind != api.Strict && k.Sure[i] != no {
				t.Fatalf("kind %d: place %d: %d, %d", kind, i, k.Sure[i], k.Holds[i])
			}
		}
		theory.Rules = theory.Rules[:api.MaxRules-1]
		if k = solved(t, theory); slices.ContainsFunc(k.Holds, func(what int) bool { return what != no }) {
			t.Errorf("kind %d, with nothing to begin with: %v", kind, k)
		}
	}
}

func TestP1TheGreatestTheoriesAreQuick(t *testing.T) {
	theory := longWay(api.Defeasible)
	for i := range theory.Rules {
		if i%2 == 1 {
			theory.Rules[i].Head = -theory.Rules[i-1].Head
		}
	}
	for i := range 10 * api.MaxRules {
		first := i % api.MaxRules
		theory.Over = append(theory.Over, [2]int{first, min(first+1+i/api.MaxRules, api.MaxRules-1)})
	}
	theory.Over = slices.DeleteFunc(theory.Over, func(pair [2]int) bool { return pair[0] == pair[1] })
	start := time.Now()
	for range 100 {
		solved(t, theory)
	}
	if took := time.Since(start); took > 5*time.Second {
		t.Errorf("100 of them took %v", took)
	}
}

func TestP4OnlyReadAndNewMemory(t *testing.T) {
	rng := rand.New(rand.NewSource(4))
	for range 200 {
		theory := thrown(rng)
		copied := Theory{Names: theory.Names, Over: slices.Clone(theory.Over)}
		for _, r := range theory.Rules {
			copied.Rules = append(copied.Rules, Rule{r.Kind, r.Head, slices.Clone(r.Body)})
		}
		k := solved(t, theory)
		if !reflect.DeepEqual(theory, copied) {
			t.Fatalf("%+v became %+v", copied, theory)
		}
		want := Known{slices.Clone(k.Sure), slices.Clone(k.Holds)}
		for i := range k.Sure {
			k.Sure[i] = 9
		}
		if !slices.Equal(k.Holds, want.Holds) {
			t.Fatalf("%+v: two lists are one", theory)
		}
		if again := solved(t, theory); !reflect.DeepEqual(again, want) {
			t.Fatalf("%+v: %v, then %v", theory, want, again)
		}
	}
}

func TestP81PlacesOfLiterals(t *testing.T) {
	for literal, want := range map[int]int{1: 0, -1: 1, 2: 2, -2: 3, api.MaxNames: 2*api.MaxNames - 2, -api.MaxNames: 2*api.MaxNames - 1} {
		if got := Place(literal); got != want {
			t.Errorf("%d: %d; want %d", literal, got, want)
		}
	}
}
