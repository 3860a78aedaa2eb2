package desk

import (
	"fmt"
	"math/rand"
	"slices"
	"strings"
	"testing"

	"statute/amend"
	"statute/api"
	"statute/day"
	"statute/decide"
	"statute/facts"
	"statute/force"
	"statute/script"
	"statute/sums"
)

// checkWork asks something: so much work must be done for it.
func checkWork(t *testing.T, d *Desk, what string, want int, ask func()) {
	t.Helper()
	d.Work()
	ask()
	if got := d.Work(); got != want {
		t.Errorf("%s: %d; want %d", what, got, want)
	}
	if again := d.Work(); again != 0 {
		t.Errorf("%s: %d, though nothing was asked", what, again)
	}
}

func TestP163WhatIsCounted(t *testing.T) {
	d := deskOf(t, house, more)
	if n := d.Work(); n != 0 {
		t.Error(n)
	}
	ask := func(who, on, known int) func() { return func() { d.Ask(caseOf(who, on, known)) } }
	checkWork(t, d, "a law and a theory", 2, ask(0, 5, 9))
	checkWork(t, d, "the same", 0, ask(0, 5, 9))
	checkWork(t, d, "somebody else", 1, ask(1, 5, 9))
	checkWork(t, d, "another day with that law", 1, ask(0, 6, 9))
	checkWork(t, d, "a day with another law", 2, ask(0, 10, 9))
	checkWork(t, d, "known on another day", 2, ask(0, 5, 8))
	checkWork(t, d, "no law", 0, ask(0, -1, 8))
	checkWork(t, d, "that law", 0, func() { d.Law(jan+7, jan+9) })
	checkWork(t, d, "that law as known on another day", 1, func() { d.Law(jan+7, jan+7) })
	checkWork(t, d, "no law", 0, func() { d.Law(jan-1, jan+9); d.Law(jan, 0); d.Law(0, jan) })
	checkWork(t, d, "why", 1, func() { d.Why(caseOf(0, 5, 9), "elig", true) })
	checkWork(t, d, "why not", 1, func() { d.Why(caseOf(0, 5, 9), "elig", false) })
	checkWork(t, d, "why on another day", 2, func() { d.Why(caseOf(0, 5, 6), "elig", true) })
	checkWork(t, d, "all of that again", 0, func() {
		d.Why(caseOf(0, 5, 9), "elig", true)
		d.Why(caseOf(0, 5, 6), "elig", true)
		d.Why(caseOf(0, 5, 9), "elig", false)
		d.Law(jan+8, jan+7)
		ask(1, 5, 9)()
	})
	checkWork(t, d, "two cases, with a law and a theory each", 4, func() { ask(0, 5, 4)(); ask(1, 10, 4)() })
}

func TestP163DueIsCountedToo(t *testing.T) {
	d := deskOf(t, house, more)
	add(t, d, facts.Fact{Who: 1, Name: "here", Other: -1, Value: 1, From: jan + 5, To: jan + 20, Learnt: jan})
	due := func(who int, name string, from, to, known, way int) func() {
		return func() { d.Due(who, name, jan+from, jan+to, jan+known, way) }
	}
	checkWork(t, d, "two laws, four stretches", 6, due(1, "basic", -5, 31, 9, api.Up))
	checkWork(t, d, "the same", 0, due(1, "basic", -5, 31, 9, api.Up))
	checkWork(t, d, "another way", 4, due(1, "basic", -5, 31, 9, api.Down))
	checkWork(t, d, "another name", 4, due(1, "rent", -5, 31, 9, api.Up))
	checkWork(t, d, "somebody else", 4, due(2, "basic", -5, 31, 9, api.Up))
	checkWork(t, d, "fewer days", 2, due(1, "basic", 0, 6, 9, api.Up))
	checkWork(t, d, "later days", 2, due(1, "basic", 6, 11, 9, api.Up))
	checkWork(t, d, "known ahead of the act", 4, due(1, "basic", -5, 31, 3, api.Up))
	checkWork(t, d, "no law", 0, due(1, "basic", -5, 0, 9, api.Up))
	checkWork(t, d, "no days", 0, due(1, "basic", 5, 4, 9, api.Up))
	// A case that was asked is not decided again.
	d = deskOf(t, house, more)
	checkWork(t, d, "two cases", 4, func() { d.Ask(caseOf(1, 0, 9)); d.Ask(caseOf(1, 10, 9)) })
	checkWork(t, d, "what comes of them", 0, due(1, "basic", -1, 20, 9, api.Up))
	checkWork(t, d, "of somebody else", 2, due(2, "basic", -1, 20, 9, api.Up))
}

func TestP163WhatIsDueIsForgottenToo(t *testing.T) {
	d := deskOf(t, house)
	due := func() int {
		t.Helper()
		l, err := d.Due(0, "basic", jan, jan+31, jan+9, api.HalfUp)
		if err != nil || len(l) != 1 {
			t.Fatal(l, err)
		}
		return l[0].Cents
	}
	if got := due(); got != 0 {
		t.Error(got)
	}
	add(t, d, is(0, "here", 10))
	if got := due(); got != 0 {
		t.Error(got)
	}
	add(t, d, is(0, "here", 9))
	if got := due(); got != 31000 {
		t.Error(got)
	}
	pass(t, d, more)
	if got := due(); got != 52000 {
		t.Error(got)
	}
	pass(t, d, "act A made 2026-01-11 from 2026-01-11\nline 2 of law: amount basic: 1\n")
	checkWork(t, d, "an act made behind", 0, func() { due() })
}

func TestP163OneQuestionTakesOnePlace(t *testing.T) {
	d := deskOf(t, house)
	d.Ask(caseOf(0, 0, 0))
	for range 500 {
		d.Ask(caseOf(1, 0, 0))
	}
	checkWork(t, d, "asked once, ahead of one that was asked 500 times", 0, func() { d.Ask(caseOf(0, 0, 0)) })
}

// whatIsAsked in all ways, of one case.
func whatIsAsked(d *Desk, c decide.Case) {
	d.Ask(c)
	d.Why(c, "elig", true)
	d.Due(c.Who, "basic", c.On, c.On+40, c.Known, api.HalfUp)
	d.Law(c.On, c.Known)
}

func TestP163WhatIsLearntBehindChangesNothing(t *testing.T) {
	d := deskOf(t, house)
	c := caseOf(0, 15, 9)
	again := func() { whatIsAsked(d, c) }
	again()
	checkWork(t, d, "nothing done", 0, again)
	add(t, d, is(0, "here", 10))
	checkWork(t, d, "a fact learnt behind", 0, again)
	pass(t, d, "act A made 2026-01-11 from 2026-01-11\nrepeal 1\n")
	checkWork(t, d, "an act made behind", 0, again)
	if d.Pass("act A made 2026-01-01 from 2026-01-01\n") == nil || d.Pass("") == nil || d.Add(is(0, "?", 0)) == nil {
		t.Error("no error")
	}
	checkWork(t, d, "changes that had an error", 0, again)
	add(t, d, is(0, "here", 9))
	checkWork(t, d, "a fact learnt on that day: two theories, as what is due begins with the case that was asked", 2, again)
	checkWork(t, d, "nothing done", 0, again)
	add(t, d, is(20, "other", 0))
	checkWork(t, d, "a fact of somebody else: two theories", 2, again)
	if a, err := d.Ask(c); err != nil || a.Known.Holds[0] != api.Yes {
		t.Error(a, err)
	}
}

func TestP163WhatIsMadeOnThatDayChangesTheLaw(t *testing.T) {
	d := deskOf(t, house)
	add(t, d, is(0, "here", 0))
	c := caseOf(0, 15, 9)
	again := func() { whatIsAsked(d, c) }
	again()
	pass(t, d, "act A made 2026-01-10 from 2026-01-11\nrepeal 1\nline 2 of law: amount basic: 7 if elig\n")
	checkWork(t, d, "a law and two theories", 3, again)
	checkWork(t, d, "the same", 0, again)
	if a, err := d.Ask(c); err != nil || a.Amounts[0].Cents != 700 {
		t.Error(a, err)
	}
	if text, _, _ := d.Law(c.On, c.Known); !strings.Contains(text, "basic: 7 if") || strings.Contains(text, "Doors") {
		t.Error(text)
	}
	if l, err := d.Due(0, "basic", jan, jan+31, jan+9, api.HalfUp); err != nil || l[0].Cents != 10000+474 {
		t.Error(l, err)
	}
}

func TestP163ErrorsAreKeptToo(t *testing.T) {
	d := deskOf(t, "law\n| rule r: elig; over r\n| amount a: a\n")
	for range 2 {
		for _, c := range []decide.Case{caseOf(0, 0, 0), caseOf(-1, 0, 0), caseOf(0, -1, 0), caseOf(0, 0, -jan)} {
			want := api.ErrOrder
			switch {
			case c.Who < 0:
				want = api.ErrKind
			case c.On < jan || c.Known < jan:
				want = api.ErrDay
			}
			if _, err := d.Ask(c); err != want {
				t.Errorf("%+v: %v", c, err)
			}
			if _, _, err := d.Why(c, "elig", true); err != want {
				t.Errorf("%+v: %v", c, err)
			}
		}
	}
	checkWork(t, d, "the same", 0, func() { d.Ask(caseOf(0, 0, 0)); d.Ask(caseOf(-1, 0, 0)); d.Why(caseOf(0, 0, 0), "elig", true) })
	pass(t, d, "act A made 2026-01-01 from 2026-01-01\nline 0 of law: rule r: elig\nline 1 of law: amount a: 1\n")
	if a, err := d.Ask(caseOf(0, 0, 0)); err != nil || a.Amounts[0].Cents != 100 {
		t.Error(a, err)
	}
	if rows, is, err := d.Why(caseOf(0, 0, 0), "elig", true); err != nil || !is || rows[len(rows)-1] != "holds elig" {
		t.Error(rows, is, err)
	}
}

func TestP163TwoHundredAsksAreKept(t *testing.T) {
	d := deskOf(t, house, more)
	ask := func(i int) { d.Ask(caseOf(i%40, i/40, 9)) }
	for i := range 200 {
		ask(i)
	}
	checkWork(t, d, "all of them again", 0, func() {
		for i := range 200 {
			ask(i)
		}
	})
	checkWork(t, d, "200 others", 200, func() {
		for i := range 200 {
			ask(200 + i)
		}
	})
	checkWork(t, d, "the last one of those ahead", 0, func() { ask(199) })
	for round := range 20 {
		// What is asked now and then is not forgotten, though it was asked first.
		for i := range 100 {
			d.Ask(caseOf(i%40, i/40, 100+round))
		}
		checkWork(t, d, "asked 101 Asks ago", 0, func() { ask(199) })
	}
	if n := len(d.cases.list); n > 201 {
		t.Errorf("%d cases are kept", n)
	}
}

func TestP163OtherQuestionsDoNotPushAsksOut(t *testing.T) {
	d := deskOf(t, house, more)
	for i := range 100 {
		add(t, d, facts.Fact{Who: i % 40, Name: "here", Other: -1, Value: 1, From: jan + 10*i, To: jan + 10*i + 5, Learnt: 1})
	}
	c := caseOf(3, 15, 9)
	d.Ask(c)
	d.Due(3, "basic", jan, jan+4000, jan+9, api.Up)
	for i := range 300 {
		d.Law(jan+i, jan+i)
		d.Why(caseOf(i%40, i, 9), "elig", true)
		d.Due(i%40, "rent", jan, jan+1+i, jan+9, api.Up)
	}
	checkWork(t, d, "asked ahead of all that", 0, func() { d.Ask(c) })
	if n := max(len(d.laws.list), len(d.reasons.list), len(d.dues.list)); n > 201 {
		t.Errorf("%d answers are kept", n)
	}
}

// version of what is known on a day: how many acts, and how many facts.
type version struct{ acts, facts int }

// slow is a desk that keeps no answers.
type slow struct {
	t     *testing.T
	book  *force.Book
	file  *facts.File
	made  []int
	asked map[decide.Case]int // by which number they were asked last
	as    map[decide.Case]version
	asks  int
}

func slowOf(t *testing.T, law string) *slow {
	return &slow{t: t, book: bookOf(t, law), file: facts.New(), asked: map[decide.Case]int{}, as: map[decide.Case]version{}}
}

func (s *slow) pass(text string) error {
	a, err := amend.ReadAct(text)
	if err != nil {
		return err
	}
	if err := s.book.Pass(a); err != nil {
		return err
	}
	s.made = append(s.made, a.Made)
	return nil
}

func (s *slow) version(known int) version {
	var v version
	for _, made := range s.made {
		if made <= known {
			v.acts++
		}
	}
	for k := range s.file.Size() {
		if x, _ := s.file.Fact(k); x.Learnt <= known {
			v.facts++
		}
	}
	return v
}

func (s *slow) law(on, known int) string {
	l, notes, there := s.book.At(on, known)
	text := ""
	if there {
		text, _ = script.Write(l)
	}
	return fmt.Sprint(text, notes, there)
}

func (s *slow) ask(c decide.Case) string {
	l, _, there := s.book.At(c.On, c.Known)
	if !there {
		return fmt.Sprint(decide.Answer{}, api.ErrDay)
	}
	a, err := decide.Decide(l, s.file, c)
	return fmt.Sprint(a, err)
}

func (s *slow) why(c decide.Case, name string, positive bool) string {
	l, _, there := s.book.At(c.On, c.Known)
	if !there {
		return fmt.Sprint([]string(nil), false, api.ErrDay)
	}
	rows, is, err := decide.Why(l, s.file, c, name, positive)
	return fmt.Sprint(rows, is, err)
}

// mayWork tells whether an Ask may need work, and takes note of it.
func (s *slow) mayWork(c decide.Case) bool {
	last, met := s.asked[c]
	may := !met || s.as[c] != s.version(c.Known) || s.asks-last > 200
	s.asked[c], s.as[c] = s.asks, s.version(c.Known)
	s.asks++
	return may
}

func someAct(r *rand.Rand, i int) string {
	from := jan + r.Intn(20)
	text := fmt.Sprintf("act A%d made %s from %s", r.Intn(i+2), day.Text(min(jan+i/2+r.Intn(3)-1, from)), day.Text(from))
	if r.Intn(3) == 0 {
		text += " until " + day.Text(from+r.Intn(9))
	}
	for range r.Intn(3) {
		text += "\n" + []string{
			"line 0 of law: rule r1: elig if old", "line 2 of law: amount basic: 620 * 33.33% + rent if elig; round up", "repeal 1", "put in law:\n  2 Gates\n    | rule r9: not elig if some child (here)", "repeal 2",
			"line 3 of law: amount rent: rent", "add 0 of law: rule r7: elig if 1 < count child; over r2", "words of law: \"here\" becomes \"old\"", "label 1: 3", "head 9: x", "x",
		}[r.Intn(11)]
	}
	return text + []string{"", "\n"}[r.Intn(2)]
}

func someFact(r *rand.Rand) facts.Fact {
	x := facts.Fact{Who: r.Intn(4), Name: []string{"here", "banned", "old", "child", "Odd"}[r.Intn(5)], Other: -1, Value: r.Intn(3), From: jan + r.Intn(20), Learnt: jan + r.Intn(15)}
	if x.Name == "child" {
		x.Other = r.Intn(4)
	}
	if r.Intn(2) == 0 {
		x.To = x.From + r.Intn(8)
	}
	return x
}

func TestP161P163AsADeskThatKeepsNothing(t *testing.T) {
	r := rand.New(rand.NewSource(163))
	for range 60 {
		d, s := deskOf(t, house), slowOf(t, house)
		for i := range 150 {
			step(t, r, d, s, i)
		}
		e, n, err := Open(d.Journal())
		if err != nil || n != 1+len(s.made)+s.file.Size() || e.Journal() != d.Journal() {
			t.Fatal(n, err)
		}
	}
}

// step does something at both desks, or asks it of both.
func step(t *testing.T, r *rand.Rand, d *Desk, s *slow, i int) {
	t.Helper()
	c := caseOf(r.Intn(4), r.Intn(22)-1, r.Intn(6)*4)
	switch name := []string{"elig", "basic", "rent", "no"}[r.Intn(4)]; r.Intn(8) {
	case 0:
		text := someAct(r, i)
		if got, want := d.Pass(text), s.pass(text); faultText(got) != faultText(want) {
			t.Fatalf("%q: %v; want %v", text, got, want)
		}
	case 1:
		x := someFact(r)
		if got, want := d.Add(x), s.file.Add(x); got != want {
			t.Fatalf("%+v: %v; want %v", x, got, want)
		}
	case 2:
		text, notes, there := d.Law(c.On, c.Known)
		if got, want := fmt.Sprint(text, notes, there), s.law(c.On, c.Known); got != want {
			t.Fatalf("%+v: %s; want %s", c, got, want)
		}
	case 3:
		rows, is, err := d.Why(c, name, i%2 == 0)
		if got, want := fmt.Sprint(rows, is, err), s.why(c, name, i%2 == 0); got != want {
			t.Fatalf("%+v: %s; want %s", c, got, want)
		}
	case 4:
		got, err := d.Due(c.Who, name, jan-3, jan+15+r.Intn(2)*9, c.Known, api.HalfUp)
		q := d.dues.list[len(d.dues.list)-1].question
		want, err2 := sums.Due(s.book, s.file, q.who, q.name, q.from, q.to, q.known, q.way)
		if !slices.Equal(got, want) || err != err2 {
			t.Fatalf("%+v: %v, %v; want %v, %v", q, got, err, want, err2)
		}
	default:
		d.Work()
		a, err := d.Ask(c)
		if got, want := fmt.Sprint(a, err), s.ask(c); got != want {
			t.Fatalf("%+v: %s; want %s", c, got, want)
		}
		if done := d.Work(); !s.mayWork(c) && done != 0 {
			t.Fatalf("%+v: asked again, and %d done", c, done)
		}
	}
}
