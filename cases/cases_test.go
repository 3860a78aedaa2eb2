package cases

import (
	"fmt"
	"math"
	"math/rand"
	"reflect"
	"slices"
	"testing"

	"statute/api"
	"statute/day"
)

var noDays = []int{0, -1, math.MinInt, api.MaxDay + 1, math.MaxInt}

// tell all that a case tells, on some days.
func tell(k *Case, days ...int) string {
	text := fmt.Sprintf("%q since %d, done %v, steps %+v", k.Stage(), k.Since(), k.Done(), k.Steps())
	for _, on := range days {
		text += fmt.Sprintf(", on %d %q", on, k.May(on))
	}
	return text
}

// opened is a case that must open.
func opened(t *testing.T, p Plan, on int, c *day.Calendar) *Case {
	t.Helper()
	k, err := Open(p, on, c)
	if err != nil {
		t.Fatalf("%+v on %d: %v", p, on, err)
	}
	return k
}

// do steps that must be done.
func do(t *testing.T, k *Case, steps ...Step) {
	t.Helper()
	for _, s := range steps {
		if err := k.Do(s); err != nil {
			t.Fatalf("%+v: %v (%s)", s, err, tell(k, s.Day))
		}
	}
}

// checkRefused does a step that is wrong: the case must stay as it was.
func checkRefused(t *testing.T, k *Case, s Step, want error) {
	t.Helper()
	was := tell(k, k.Since(), s.Day)
	if err := k.Do(s); err != want {
		t.Errorf("%+v: %v; want %v (%s)", s, err, want, was)
	}
	if now := tell(k, k.Since(), s.Day); now != was {
		t.Errorf("%+v: the case became another: %s; was %s", s, now, was)
	}
}

func checkMay(t *testing.T, k *Case, on int, want ...string) {
	t.Helper()
	if got := k.May(on); !slices.Equal(got, want) || len(want) == 0 && got != nil {
		t.Errorf("on %d %q; want %q (%s)", on, got, want, tell(k))
	}
}

func TestP151ACaseThatOpens(t *testing.T) {
	for _, on := range []int{1, 100, api.MaxDay} {
		k := opened(t, court(), on, nil)
		if k.Stage() != "filed" || k.Since() != on || k.Steps() != nil || k.Done() {
			t.Error(tell(k, on))
		}
		checkMay(t, k, on, "close", "hear")
	}
	for _, on := range noDays {
		if k, err := Open(court(), on, nil); k != nil || err != api.ErrDay {
			t.Error(on, k, err)
		}
		if k, err := Open(Plan{}, on, nil); k != nil || err != api.ErrName {
			t.Error(on, k, err)
		}
	}
}

func TestP151ACaseGoesOn(t *testing.T) {
	k := opened(t, court(), 100, &day.Calendar{Holidays: []int{103}})
	do(t, k, Step{"hear", "judge", 100}, Step{"decide", "judge", 101})
	checkMay(t, k, 101, "appeal", "close", "remit")
	checkMay(t, k, 104, "appeal", "close", "remit")
	checkMay(t, k, 105, "close", "remit")
	checkRefused(t, k, Step{"appeal", "ann", 105}, api.ErrDay)
	do(t, k, Step{"appeal", "ann", 104})
	if k.Stage() != "heard" || k.Since() != 104 || k.Done() {
		t.Error(tell(k))
	}
	do(t, k, Step{"decide", "judge", 104}, Step{"close", "clerk", 900})
	if k.Stage() != "closed" || k.Since() != 900 || !k.Done() {
		t.Error(tell(k))
	}
	want := []Step{{"hear", "judge", 100}, {"decide", "judge", 101}, {"appeal", "ann", 104}, {"decide", "judge", 104}, {"close", "clerk", 900}}
	if got := k.Steps(); !slices.Equal(got, want) {
		t.Error(got)
	}
	checkMay(t, k, 900)
	checkRefused(t, k, Step{"close", "clerk", 900}, api.ErrStage)
}

func TestP151StepsThatAreRefused(t *testing.T) {
	k := opened(t, court(), 100, nil)
	for _, on := range append(noDays, 1, 99) {
		checkRefused(t, k, Step{"hear", "judge", on}, api.ErrDay)
		checkRefused(t, k, Step{"no_move", "nobody", on}, api.ErrDay)
		checkMay(t, k, on)
	}
	do(t, k, Step{"hear", "judge", 110})
	for _, on := range append(noDays, 99, 100, 109) {
		checkRefused(t, k, Step{"decide", "judge", on}, api.ErrDay)
		checkMay(t, k, on)
	}
	for _, name := range []string{"", "hear", "close", "appeal", "Decide", "decide "} {
		checkRefused(t, k, Step{name, "judge", 110}, api.ErrStage)
	}
	for _, who := range []string{"", "ann", "Judge", "decide"} {
		checkRefused(t, k, Step{"decide", who, 110}, api.ErrKind)
	}
}

func TestP151ErrorsComeInTheirOrder(t *testing.T) {
	p := Plan{Start: "a", Final: []string{"f"}, Moves: []Move{
		{Name: "again", From: "a", To: "a", Who: "w", Most: 1, Within: day.Term{N: 3}},
		{Name: "end", From: "a", To: "f", Who: "w"},
	}}
	k := opened(t, p, 10, nil)
	checkRefused(t, k, Step{"again", "v", 14}, api.ErrKind)
	checkRefused(t, k, Step{"again", "w", 14}, api.ErrDay)
	do(t, k, Step{"again", "w", 13})
	checkRefused(t, k, Step{"again", "w", 12}, api.ErrDay)
	checkRefused(t, k, Step{"again", "w", 99}, api.ErrOrder)
	checkRefused(t, k, Step{"again", "v", 99}, api.ErrKind)
	checkRefused(t, k, Step{"other", "v", 99}, api.ErrStage)
	do(t, k, Step{"end", "w", 99})
	checkRefused(t, k, Step{"end", "v", 99}, api.ErrStage)
	checkRefused(t, k, Step{"end", "v", 98}, api.ErrDay)
}

func TestP151TheStartMayBeFinal(t *testing.T) {
	k := opened(t, Plan{Start: "f", Final: []string{"e", "f"}}, 10, nil)
	if !k.Done() || k.Stage() != "f" || k.Since() != 10 {
		t.Error(tell(k))
	}
	checkMay(t, k, 10)
	checkRefused(t, k, Step{"m", "w", 10}, api.ErrStage)
	checkRefused(t, k, Step{"m", "w", 9}, api.ErrDay)
}

func TestP151AStageWithoutMovesIsNotDone(t *testing.T) {
	k := opened(t, Plan{Start: "a", Final: []string{"f"}}, 10, nil)
	if k.Done() {
		t.Error(tell(k))
	}
	checkMay(t, k, 10)
	checkRefused(t, k, Step{"m", "w", 10}, api.ErrStage)
}

func TestP151MovesOfOneNameAreCountedEachByItself(t *testing.T) {
	p := Plan{Start: "a", Moves: []Move{
		{Name: "m", From: "a", To: "b", Who: "w", Most: 2},
		{Name: "m", From: "b", To: "a", Who: "v", Most: 1},
		{Name: "n", From: "b", To: "a", Who: "v"},
	}}
	k := opened(t, p, 10, nil)
	do(t, k, Step{"m", "w", 10}, Step{"m", "v", 10}, Step{"m", "w", 10})
	checkMay(t, k, 10, "n")
	checkRefused(t, k, Step{"m", "v", 10}, api.ErrOrder)
	do(t, k, Step{"n", "v", 10})
	checkMay(t, k, 10)
	checkRefused(t, k, Step{"m", "w", 10}, api.ErrOrder)
}

func TestP151AStageThatIsComeToAgainBeginsAnew(t *testing.T) {
	p := Plan{Start: "a", Moves: []Move{
		{Name: "again", From: "a", To: "a", Who: "w", Most: 5, Within: day.Term{N: 3}},
		{Name: "soon", From: "a", To: "b", Who: "w", Within: day.Term{N: 1}},
	}}
	k := opened(t, p, 10, nil)
	checkMay(t, k, 11, "again", "soon")
	checkMay(t, k, 12, "again")
	do(t, k, Step{"again", "w", 13})
	checkMay(t, k, 14, "again", "soon")
	do(t, k, Step{"again", "w", 16})
	if k.Since() != 16 || k.Stage() != "a" {
		t.Error(tell(k))
	}
	checkRefused(t, k, Step{"again", "w", 20}, api.ErrDay)
	do(t, k, Step{"soon", "w", 17})
}

// withTerm is a case of one move within a term.
func withTerm(t *testing.T, term day.Term, on int, c *day.Calendar) *Case {
	t.Helper()
	return opened(t, Plan{Start: "a", Moves: []Move{{Name: "m", From: "a", To: "b", Who: "w", Within: term}}}, on, c)
}

func TestP151TermsEnd(t *testing.T) {
	week := &day.Calendar{Off: [7]bool{5: true, 6: true}}
	for _, c := range []struct {
		term day.Term
		on   int
		c    *day.Calendar
		last int // 0: the term is over on every day
	}{
		{day.Term{N: 1}, 10, nil, 11},
		{day.Term{N: 2, Unit: api.Weeks}, 10, week, 24},
		{day.Term{N: 1, Unit: api.Months}, 31, nil, 59},
		{day.Term{N: 1, Unit: api.Years}, 1, nil, 366},
		{day.Term{N: 1, Unit: api.Working}, 5, week, 8},
		{day.Term{N: 1, Roll: api.Next}, 5, week, 8},
		{day.Term{N: 1, Roll: api.Before}, 5, week, 5},
		{day.Term{N: 1, Roll: api.Before}, 6, week, 0},  // it was over ahead of its beginning
		{day.Term{N: 0, Unit: api.Working}, 6, week, 6}, // no days, but a term
		{day.Term{N: 0, Unit: api.Weeks}, 6, nil, 6},
		{day.Term{N: 0, Unit: api.Months, Roll: api.Next}, 6, week, 8},
		{day.Term{N: 0, Unit: api.Years}, 6, nil, 6},
		{day.Term{N: 1}, api.MaxDay, nil, 0},
		{day.Term{N: 1}, api.MaxDay - 1, nil, api.MaxDay},
		{day.Term{N: 1, Unit: api.Working}, 10, &day.Calendar{Off: [7]bool{true, true, true, true, true, true, true}}, 0},
		{day.Term{N: 1, Roll: api.Next}, 10, &day.Calendar{Off: [7]bool{true, true, true, true, true, true, true}}, 0},
	} {
		k := withTerm(t, c.term, c.on, c.c)
		for _, on := range []int{c.on, c.last, c.last + 1, api.MaxDay} {
			if !day.IsDay(on) || on < c.on {
				continue
			}
			if on > c.last {
				checkMay(t, k, on)
				checkRefused(t, k, Step{"m", "w", on}, api.ErrDay)
				continue
			}
			checkMay(t, k, on, "m")
			do(t, withTerm(t, c.term, c.on, c.c), Step{"m", "w", on})
		}
	}
}

func TestP151ATermOfNoDaysIsNone(t *testing.T) {
	off := &day.Calendar{Off: [7]bool{true, true, true, true, true, true, true}}
	for _, roll := range []int{api.Stay, api.Next, api.Before} {
		for _, c := range []*day.Calendar{nil, {}, off} {
			for _, on := range []int{10, 11, api.MaxDay} {
				k := withTerm(t, day.Term{N: 0, Unit: api.Days, Roll: roll}, 10, c)
				checkMay(t, k, on, "m")
				do(t, k, Step{"m", "w", on})
			}
		}
	}
}

func TestP151ManySteps(t *testing.T) {
	p := Plan{Start: "a", Moves: []Move{{Name: "m", From: "a", To: "a", Who: "w", Most: math.MaxInt}}}
	k := opened(t, p, 1, nil)
	for i := range 3 * api.MaxSteps {
		do(t, k, Step{"m", "w", 1 + i/2})
	}
	if n := len(k.Steps()); n != 3*api.MaxSteps {
		t.Error(n)
	}
}

func TestP151MayTellsNamesInOrder(t *testing.T) {
	p := Plan{Start: "a"}
	for _, name := range []string{"b", "z", "a", "b_1", "b1", "aa"} {
		p.Moves = append(p.Moves, Move{Name: name, From: "a", To: "b", Who: "w"}, Move{Name: "x" + name, From: "b", To: "c", Who: "w"})
	}
	checkMay(t, opened(t, p, 1, nil), 1, "a", "aa", "b", "b1", "b_1", "z")
}

// past is what a plan and steps come to, gone through from the beginning.
type past struct {
	plan  Plan
	c     *day.Calendar
	open  int
	steps []Step
}

// at is the stage to which the steps came, and the day of the last of them.
func (p past) at() (stage string, since int) {
	stage, since = p.plan.Start, p.open
	for _, s := range p.steps {
		for _, m := range p.plan.Moves {
			if m.Name == s.Move && m.From == stage {
				stage, since = m.To, s.Day
				break
			}
		}
	}
	return stage, since
}

// times is how often a move was done.
func (p past) times(m Move) int {
	n := 0
	for i, s := range p.steps {
		before := p
		before.steps = p.steps[:i]
		if stage, _ := before.at(); stage == m.From && s.Move == m.Name {
			n++
		}
	}
	return n
}

// refuses tells what is wrong with a step, sentence by sentence.
func (p past) refuses(s Step) error {
	stage, since := p.at()
	if s.Day < 1 || s.Day > api.MaxDay || s.Day < since {
		return api.ErrDay
	}
	for _, m := range p.plan.Moves {
		if m.Name != s.Move || m.From != stage {
			continue
		}
		if m.Who != s.Who {
			return api.ErrKind
		}
		if m.Most != 0 && p.times(m) >= m.Most {
			return api.ErrOrder
		}
		if m.Within.N != 0 || m.Within.Unit != api.Days {
			if last, err := p.c.Due(since, m.Within); err != nil || s.Day > last {
				return api.ErrDay
			}
		}
		return nil
	}
	return api.ErrStage
}

// may are the names of moves that somebody could do, tried one by one.
func (p past) may(on int) []string {
	var names []string
	for _, m := range p.plan.Moves {
		if p.refuses(Step{m.Name, m.Who, on}) == nil && !slices.Contains(names, m.Name) {
			names = append(names, m.Name)
		}
	}
	slices.Sort(names)
	return names
}

// planByChance has few stages and names, so that moves meet.
func planByChance(r *rand.Rand) Plan {
	stages := []string{"a", "b", "c", "d"}
	any := func(list []string) string { return list[r.Intn(len(list))] }
	p := Plan{Start: any(stages)}
	for range r.Intn(3) {
		p.Final = append(p.Final, any(stages[2:]))
	}
	for range r.Intn(10) {
		m := Move{Name: any([]string{"m", "n", "o"}), From: any(stages), To: any(stages), Who: any([]string{"v", "w"}), Most: min(r.Intn(4), 2)}
		if r.Intn(2) == 0 {
			m.Within = day.Term{N: r.Intn(4), Unit: r.Intn(5), Roll: r.Intn(3)}
		}
		p.Moves = append(p.Moves, m)
	}
	return p
}

func TestP151CasesByChance(t *testing.T) {
	r := rand.New(rand.NewSource(151))
	tried, met := 0, map[error]int{}
	for tried < 10000 {
		plan := planByChance(r)
		if Valid(plan) != nil {
			continue
		}
		tried++
		open := 1 + r.Intn(20)
		if r.Intn(5) == 0 {
			open = api.MaxDay - r.Intn(20)
		}
		c := &day.Calendar{Off: [7]bool{5: true, 6: r.Intn(2) == 0}, Holidays: []int{open + r.Intn(9), open + r.Intn(9)}}
		p := past{plan: plan, c: c, open: open}
		k := opened(t, plan, open, c)
		for range 20 {
			stage, since := p.at()
			if k.Stage() != stage || k.Since() != since || k.Done() != slices.Contains(plan.Final, stage) || !slices.Equal(k.Steps(), p.steps) {
				t.Fatalf("%+v: %s", p, tell(k))
			}
			on := since + max(0, r.Intn(9)-2) - r.Intn(2)
			if got, want := k.May(on), p.may(on); !slices.Equal(got, want) {
				t.Fatalf("%+v on %d: %q; want %q", p, on, got, want)
			}
			s := Step{[]string{"m", "n", "o", "p"}[r.Intn(4)], []string{"v", "w"}[r.Intn(2)], on}
			if i := slices.IndexFunc(plan.Moves, func(m Move) bool { return m.From == stage }); i >= 0 && r.Intn(2) == 0 {
				s = Step{plan.Moves[i].Name, plan.Moves[i].Who, on}
			}
			want := p.refuses(s)
			if err := k.Do(s); err != want {
				t.Fatalf("%+v, %+v: %v; want %v", p, s, err, want)
			}
			met[want]++
			if want == nil {
				p.steps = append(p.steps, s)
			}
		}
	}
	for _, err := range []error{nil, api.ErrDay, api.ErrStage, api.ErrKind, api.ErrOrder} {
		if met[err] < 1000 {
			t.Error(err, "met", met[err], "times alone")
		}
	}
}

func TestP151MayTellsWhatSomebodyMayDo(t *testing.T) {
	r := rand.New(rand.NewSource(1511))
	replayed := func(p Plan, steps []Step) *Case {
		k := opened(t, p, 10, nil)
		do(t, k, steps...)
		return k
	}
	for tried := 0; tried < 500; {
		p := planByChance(r)
		if Valid(p) != nil {
			continue
		}
		tried++
		var steps []Step
		for on := 10; on < 20; on += r.Intn(3) {
			var could []string
			for _, name := range []string{"m", "n", "o"} {
				for _, who := range []string{"v", "w"} {
					if replayed(p, steps).Do(Step{name, who, on}) == nil {
						could = append(could, name)
					}
				}
			}
			checkMay(t, replayed(p, steps), on, could...)
			k := replayed(p, steps)
			s := Step{[]string{"m", "n", "o"}[r.Intn(3)], []string{"v", "w"}[r.Intn(2)], on}
			if k.Do(s) == nil {
				steps = append(steps, s)
			}
		}
	}
}

func TestP1ACaseThatIsNone(t *testing.T) {
	none, err := Open(Plan{}, 1, nil)
	if none != nil || err == nil {
		t.Fatal(none, err)
	}
	for _, k := range []*Case{none, {}} {
		if k.Stage() != "" || k.Since() != 0 || k.Steps() != nil || k.Done() || k.May(1) != nil {
			t.Error(tell(k, 1))
		}
		if err := k.Do(Step{"m", "w", 1}); err != api.ErrStage {
			t.Error(err)
		}
		if err := k.Do(Step{"m", "w", 0}); err != api.ErrDay {
			t.Error(err)
		}
	}
}

func TestP4NothingOfACaseIsShared(t *testing.T) {
	p := court()
	c := &day.Calendar{Holidays: []int{101}}
	k := opened(t, p, 100, c)
	other := opened(t, court(), 100, &day.Calendar{Holidays: []int{101}})
	p.Start, p.Final[0], p.Final[1] = "x", "x", "decided"
	for i := range p.Moves {
		p.Moves[i] = Move{Name: "x", From: "filed", To: "x", Who: "x"}
	}
	c.Off, c.Holidays[0] = [7]bool{true, true, true, true, true}, 102
	steps := []Step{{"hear", "judge", 100}, {"decide", "judge", 100}}
	for _, s := range steps {
		do(t, k, s)
		do(t, other, s)
		for _, list := range [][]Step{k.Steps(), k.Steps()} {
			list[0] = Step{}
			_ = append(list, Step{"x", "x", 1})
		}
		if names := k.May(100); names != nil {
			names[0] = "x"
		}
	}
	days := []int{100, 101, 102, 103, 104, 105}
	if got, want := tell(k, days...), tell(other, days...); got != want {
		t.Errorf("%s; want %s", got, want)
	}
	if !reflect.DeepEqual(k.Steps(), steps) {
		t.Error(k.Steps())
	}
	do(t, k, Step{"appeal", "ann", 103})
	if len(other.Steps()) != 2 || other.Stage() != "decided" {
		t.Error(tell(other))
	}
}
