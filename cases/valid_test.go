package cases

import (
	"fmt"
	"math"
	"math/rand"
	"reflect"
	"slices"
	"strings"
	"testing"

	"statute/api"
	"statute/day"
)

var (
	noWords = []string{"", "A", "1a", "_a", "a b", "a-b", "aB", "é", "aé", "a\n", " a", "a ", strings.Repeat("a", api.MaxWord+1)}
	words   = []string{"a", "z9_", "if", "rule", "a_", strings.Repeat("a", api.MaxWord)}
)

// court is a plan that goes back and forth, as often as it may.
func court() Plan {
	return Plan{Start: "filed", Final: []string{"closed", "void"}, Moves: []Move{
		{Name: "hear", From: "filed", To: "heard", Who: "judge"},
		{Name: "decide", From: "heard", To: "decided", Who: "judge"},
		{Name: "remit", From: "decided", To: "filed", Who: "court", Most: 1},
		{Name: "appeal", From: "decided", To: "heard", Who: "ann", Within: day.Term{N: 2, Unit: api.Working}, Most: 2},
		{Name: "close", From: "decided", To: "closed", Who: "clerk"},
		{Name: "close", From: "filed", To: "closed", Who: "clerk"},
	}}
}

// checkPlan holds Valid and Open against what is to be told of a plan; both only read it.
func checkPlan(t *testing.T, p Plan, want error) {
	t.Helper()
	was := fmt.Sprintf("%#v", p)
	if err := Valid(p); err != want {
		t.Errorf("%+v: %v; want %v", p, err, want)
	}
	k, err := Open(p, 7, nil)
	if err != want || (k == nil) != (want != nil) {
		t.Errorf("%+v: Open tells %v, %v; want %v", p, k, err, want)
	}
	if now := fmt.Sprintf("%#v", p); now != was {
		t.Errorf("%s became %s", was, now)
	}
}

// numbered words: a prefix and a number each.
func numbered(prefix string, n int) []string {
	var list []string
	for i := range n {
		list = append(list, fmt.Sprint(prefix, i))
	}
	return list
}

func TestP150PlansThatAreRight(t *testing.T) {
	checkPlan(t, court(), nil)
	checkPlan(t, Plan{Start: "a"}, nil)
	checkPlan(t, Plan{Start: "a", Final: []string{"a"}}, nil)
	checkPlan(t, Plan{Start: "a", Final: []string{"b", "b"}}, nil)
	checkPlan(t, Plan{Start: "a", Moves: []Move{{Name: "m", From: "x", To: "y", Who: "w"}}}, nil)
	checkPlan(t, Plan{Start: "a", Moves: []Move{{Name: "a", From: "a", To: "b", Who: "a", Most: math.MaxInt}}}, nil)
}

func TestP150Bounds(t *testing.T) {
	p := Plan{Start: "a"}
	for _, name := range numbered("m", api.MaxRules) {
		p.Moves = append(p.Moves, Move{Name: name, From: "a", To: "b", Who: "w"})
	}
	checkPlan(t, p, nil)
	p.Moves = append(p.Moves, Move{Name: "one_more", From: "a", To: "b", Who: "w"})
	checkPlan(t, p, api.ErrBound)

	checkPlan(t, Plan{Start: "a", Final: numbered("f", api.MaxRules-1)}, nil)
	checkPlan(t, Plan{Start: "a", Final: numbered("f", api.MaxRules)}, api.ErrBound)
	checkPlan(t, Plan{Start: "f0", Final: numbered("f", api.MaxRules)}, nil)
	checkPlan(t, Plan{Start: "a", Final: slices.Repeat([]string{"b", "c"}, api.MaxRules)}, nil)

	var pairs []Move
	stages := numbered("s", api.MaxRules)
	for i := 0; i < len(stages); i += 2 {
		pairs = append(pairs, Move{Name: "m", From: stages[i], To: stages[i+1], Who: "w"})
	}
	checkPlan(t, Plan{Start: "s0", Moves: pairs}, nil)
	checkPlan(t, Plan{Start: "a", Moves: pairs}, api.ErrBound)
	checkPlan(t, Plan{Start: "s0", Final: []string{"a"}, Moves: pairs}, api.ErrBound)
	for _, m := range []Move{{Name: "n", From: "a", To: "s0", Who: "w"}, {Name: "n", From: "s0", To: "a", Who: "w"}} {
		checkPlan(t, Plan{Start: "s0", Moves: append(slices.Clone(pairs), m)}, api.ErrBound)
	}
}

// names are pointers to all names of a plan.
func names(p *Plan) []*string {
	list := []*string{&p.Start}
	for i := range p.Final {
		list = append(list, &p.Final[i])
	}
	for i := range p.Moves {
		m := &p.Moves[i]
		list = append(list, &m.Name, &m.From, &m.To, &m.Who)
	}
	return list
}

func TestP150NamesAreWords(t *testing.T) {
	all := court()
	for i := range names(&all) {
		for _, name := range noWords {
			p := court()
			*names(&p)[i] = name
			checkPlan(t, p, api.ErrName)
		}
		for _, name := range words {
			p := court()
			*names(&p)[i] = name
			checkPlan(t, p, nil)
		}
	}
}

func TestP150TwoMovesOfOneNameAndFrom(t *testing.T) {
	m := Move{Name: "m", From: "a", To: "b", Who: "w"}
	for _, c := range []struct {
		other Move
		want  error
	}{
		{m, api.ErrName},
		{Move{Name: "m", From: "a", To: "c", Who: "v", Most: 2, Within: day.Term{N: 3}}, api.ErrName},
		{Move{Name: "n", From: "a", To: "b", Who: "w"}, nil},
		{Move{Name: "m", From: "b", To: "c", Who: "w"}, nil},
	} {
		between := Move{Name: "x", From: "a", To: "b", Who: "w"}
		checkPlan(t, Plan{Start: "a", Moves: []Move{m, c.other}}, c.want)
		checkPlan(t, Plan{Start: "a", Moves: []Move{c.other, between, m}}, c.want)
	}
}

func TestP150KindsOfMoves(t *testing.T) {
	for i := range court().Moves {
		for _, most := range []int{-1, math.MinInt} {
			p := court()
			p.Moves[i].Most = most
			checkPlan(t, p, api.ErrKind)
		}
	}
	for _, stage := range []string{"filed", "heard", "decided"} {
		p := court()
		p.Final = append(p.Final, stage)
		checkPlan(t, p, api.ErrKind)
		p.Final[0], p.Final[2] = p.Final[2], p.Final[0]
		checkPlan(t, p, api.ErrKind)
	}
}

// freeMoves are moves from stage to stage that may be done any number of times.
func freeMoves(stages string) []Move {
	var list []Move
	for i := range len(stages) - 1 {
		list = append(list, Move{Name: fmt.Sprint("m", i), From: stages[i : i+1], To: stages[i+1 : i+2], Who: "w"})
	}
	return list
}

func TestP150Rings(t *testing.T) {
	for _, stages := range []string{"aa", "aba", "abca", "abcdb", "abcdefghija"} {
		for _, start := range []string{"a", "x"} {
			moves := freeMoves(stages)
			checkPlan(t, Plan{Start: start, Moves: moves}, api.ErrOrder)
			slices.Reverse(moves)
			checkPlan(t, Plan{Start: start, Moves: moves}, api.ErrOrder)
		}
		ring := strings.IndexByte(stages, stages[len(stages)-1])
		for i := ring; i < len(stages)-1; i++ {
			p := Plan{Start: "a", Moves: freeMoves(stages)}
			p.Moves[i].Most = 1
			checkPlan(t, p, nil)
			p.Moves = append(p.Moves, p.Moves[i])
			p.Moves[len(p.Moves)-1].Name = "another_way"
			checkPlan(t, p, nil)
			p.Moves[len(p.Moves)-1].Most = 0
			checkPlan(t, p, api.ErrOrder)
		}
	}
	checkPlan(t, Plan{Start: "a", Moves: append(freeMoves("abd"), freeMoves("xacd")...)}, nil)
}

// comesBack tells whether free moves lead from a stage back to it, looked for from each stage in turn.
func comesBack(p Plan) bool {
	for _, first := range p.Moves {
		met := []string{first.From}
		for i := 0; i < len(met); i++ {
			for _, m := range p.Moves {
				switch {
				case m.From != met[i] || m.Most != 0:
				case m.To == first.From:
					return true
				case !slices.Contains(met, m.To):
					met = append(met, m.To)
				}
			}
		}
	}
	return false
}

func TestP150RingsByChance(t *testing.T) {
	r := rand.New(rand.NewSource(150))
	rings := 0
	for range 3000 {
		p := Plan{Start: "a"}
		stages := "abcdef"[:1+r.Intn(6)]
		for i := range r.Intn(8) {
			from, to := r.Intn(len(stages)), r.Intn(len(stages))
			p.Moves = append(p.Moves, Move{Name: fmt.Sprint("m", i), From: stages[from : from+1], To: stages[to : to+1], Who: "w", Most: max(0, r.Intn(4)-2)})
		}
		var want error
		if comesBack(p) {
			want = api.ErrOrder
			rings++
		}
		checkPlan(t, p, want)
	}
	if rings < 500 || rings > 2500 {
		t.Error(rings, "rings of 3000")
	}
}

func TestP150TermsAreThoseOfDays(t *testing.T) {
	for _, c := range []struct {
		term day.Term
		want error
	}{
		{day.Term{N: -1}, api.ErrBound},
		{day.Term{N: api.MaxTerm + 1}, api.ErrBound},
		{day.Term{N: -1, Unit: 9, Roll: 9}, api.ErrBound},
		{day.Term{N: 1, Unit: -1}, api.ErrKind},
		{day.Term{N: 1, Unit: api.Years + 1}, api.ErrKind},
		{day.Term{Unit: 9}, api.ErrKind},
		{day.Term{N: 1, Roll: -1}, api.ErrKind},
		{day.Term{Roll: api.Before + 1}, api.ErrKind},
		{day.Term{N: 9999, Unit: api.Years}, api.ErrDay},
		{day.Term{N: 9998, Unit: api.Years}, nil},
		{day.Term{N: api.MaxTerm}, nil},
		{day.Term{N: api.MaxTerm, Unit: api.Working}, nil},
		{day.Term{N: api.MaxTerm, Unit: api.Weeks}, nil},
		{day.Term{N: api.MaxTerm, Unit: api.Months}, nil},
		{day.Term{N: 0, Roll: api.Before}, nil},
		{day.Term{N: 0, Unit: api.Working, Roll: api.Next}, nil},
	} {
		for i := range court().Moves {
			p := court()
			p.Moves[i].Within = c.term
			checkPlan(t, p, c.want)
		}
	}
}

func TestP150TheFirstTermThatIsWrongIsTold(t *testing.T) {
	wrong := []Move{
		{Name: "m", From: "a", To: "b", Who: "w", Within: day.Term{N: 9999, Unit: api.Years}},
		{Name: "n", From: "a", To: "b", Who: "w", Within: day.Term{Unit: 9}},
		{Name: "o", From: "a", To: "b", Who: "w", Within: day.Term{N: -1}},
	}
	checkPlan(t, Plan{Start: "a", Moves: wrong}, api.ErrDay)
	checkPlan(t, Plan{Start: "a", Moves: wrong[1:]}, api.ErrKind)
	slices.Reverse(wrong)
	checkPlan(t, Plan{Start: "a", Moves: wrong}, api.ErrBound)
}

func TestP150ErrorsComeInTheirOrder(t *testing.T) {
	p := Plan{Start: "a", Final: []string{"f"}, Moves: []Move{
		{Name: "m", From: "a", To: "a", Who: "w", Within: day.Term{N: -1}},
	}}
	mended := func(mend func(p *Plan)) Plan {
		q := Plan{Start: p.Start, Final: slices.Clone(p.Final), Moves: slices.Clone(p.Moves)}
		mend(&q)
		return q
	}
	ring := func(p *Plan) {}
	kind := func(p *Plan) { p.Moves[0].Most = -1 }
	final := func(p *Plan) { p.Final[0] = "a" }
	name := func(p *Plan) { kind(p); p.Final = append(p.Final, "A") }
	twice := func(p *Plan) { kind(p); p.Moves = append(p.Moves, p.Moves[0]) }
	stages := func(p *Plan) { name(p); p.Final = append(p.Final, numbered("f", api.MaxRules)...) }
	moves := func(p *Plan) { name(p); p.Moves = slices.Repeat(p.Moves, api.MaxRules+1) }
	checkPlan(t, mended(ring), api.ErrOrder)
	checkPlan(t, mended(kind), api.ErrKind)
	checkPlan(t, mended(final), api.ErrKind)
	checkPlan(t, mended(name), api.ErrName)
	checkPlan(t, mended(twice), api.ErrName)
	checkPlan(t, mended(stages), api.ErrBound)
	checkPlan(t, mended(moves), api.ErrBound)
	checkPlan(t, mended(func(p *Plan) { p.Moves[0].Most = 1 }), api.ErrBound)
	checkPlan(t, Plan{}, api.ErrName)
	checkPlan(t, Plan{Moves: make([]Move, api.MaxRules+1)}, api.ErrBound)
}

func TestP4NilAndEmptyListsOfAPlanAreOne(t *testing.T) {
	a, errA := Open(Plan{Start: "a"}, 5, nil)
	b, errB := Open(Plan{Start: "a", Final: []string{}, Moves: []Move{}}, 5, &day.Calendar{})
	if errA != nil || errB != nil || !reflect.DeepEqual(tell(a, 5), tell(b, 5)) {
		t.Error(tell(a, 5), errA, tell(b, 5), errB)
	}
}
