package desk

import (
	"errors"
	"fmt"
	"math"
	"reflect"
	"slices"
	"strings"
	"testing"

	"statute/amend"
	"statute/api"
	"statute/day"
	"statute/decide"
	"statute/facts"
	"statute/force"
	"statute/script"
	"statute/sums"
)

// jan is 2026-01-01.
const jan = 739617

var noDays = []int{0, -1, math.MinInt, api.MaxDay + 1, math.MaxInt}

const pension = "law Of pensions\n| rule r1: elig if old\n| amount basic: 310 if elig\n1 Bans\n  | rule r2: not elig if banned\n"

const house = "law Of houses\n| rule r1: elig if here\n| rule r2: not elig if banned; over r1\n| amount basic: 310 if elig\n| amount rent: 5\n1 Doors\n"

// more is an act by which basic becomes more, from 2026-01-11 on.
const more = "act More made 2026-01-05 from 2026-01-11\nline 2 of law: amount basic: 620 if elig\n"

// none is an act that can't be done.
const none = "act None made 2026-01-06 from 2026-01-12\nhead 1: Gates\nrepeal 9\n"

func TestJan(t *testing.T) {
	if day.Text(jan) != "2026-01-01" {
		t.Error(day.Text(jan))
	}
}

// deskOf a law, from jan on, at which some acts were passed.
func deskOf(t *testing.T, law string, acts ...string) *Desk {
	t.Helper()
	d, err := New(law, jan)
	if err != nil {
		t.Fatalf("%q: %v", law, err)
	}
	pass(t, d, acts...)
	return d
}

func pass(t *testing.T, d *Desk, acts ...string) {
	t.Helper()
	for _, act := range acts {
		if err := d.Pass(act); err != nil {
			t.Fatalf("%q: %v", act, err)
		}
	}
}

func add(t *testing.T, d *Desk, list ...facts.Fact) {
	t.Helper()
	for _, x := range list {
		if err := d.Add(x); err != nil {
			t.Fatalf("%+v: %v", x, err)
		}
	}
}

// is a fact of somebody, from jan on, learnt some days behind it.
func is(who int, name string, learnt int) facts.Fact {
	return facts.Fact{Who: who, Name: name, Other: -1, Value: 1, From: jan, Learnt: jan + learnt}
}

// caseOf somebody on a day, as known on a day, both behind jan.
func caseOf(who, on, known int) decide.Case {
	return decide.Case{Who: who, On: jan + on, Known: jan + known}
}

// faultText tells an error, and its place, if there is one.
func faultText(err error) string {
	var fault *api.Fault
	if errors.As(err, &fault) {
		return fmt.Sprintf("%v at %d", fault.Err, fault.At)
	}
	return fmt.Sprint(err)
}

func TestP160New(t *testing.T) {
	for _, c := range []struct {
		law  string
		on   int
		want string
	}{
		{house, jan, "<nil>"}, {"law", 1, "<nil>"}, {"\n\nlaw\n  \n", api.MaxDay, "<nil>"}, {strings.TrimSuffix(house, "\n"), jan, "<nil>"},
		{"law" + strings.Repeat("\n", api.MaxText-3), jan, "<nil>"},
		{"", jan, "statute: text at 0"}, {"act", jan, "statute: text at 0"}, {"law A\n1\n1\n", jan, "statute: name at 2"},
		{"law A\n|" + strings.Repeat(" x", 200), jan, "statute: bound at 1"},
		{"law" + strings.Repeat("\n", api.MaxText-2), jan, "statute: bound at 0"},
		{house, 0, "statute: day"}, {house, -1, "statute: day"}, {house, api.MaxDay + 1, "statute: day"},
		// What is wrong with the law comes first.
		{"law A\n?\n", 0, "statute: name at 1"}, {"", math.MinInt, "statute: text at 0"},
	} {
		d, err := New(c.law, c.on)
		if got := faultText(err); got != c.want || (d == nil) != (err != nil) {
			t.Errorf("%.40q from %d: %s, %v; want %s", c.law, c.on, got, d != nil, c.want)
		}
	}
}

func TestP160Pass(t *testing.T) {
	for _, c := range []struct{ act, want string }{
		{"act A made 2026-01-05 from 2026-01-05", "<nil>"},
		{"act A made 2026-01-05 from 2026-01-11 until 2026-02-01\nrepeal 1\n", "<nil>"},
		{none, "statute: name"}, {more, "statute: name"},
		// What can't be done is passed all the same.
		{"act A made 2026-01-06 from 2026-01-06\nrepeal 9\n", "<nil>"},
		{"act A made 9999-12-31 from 9999-12-31", "<nil>"},
		{"", "statute: text at 0"}, {"act A made 2026-01-06 from 2026-01-06\n\n", "statute: text at 1"},
		{"act A made 2026-01-06 from 2026-02-30\n", "statute: text at 0"}, {"act A made 2026-01-07 from 2026-01-06\n", "statute: day at 0"},
		{"act A made 2026-01-06 from 2026-01-06\nput in law:\n  1\n  1\n", "statute: name at 3"},
		{"act A made 2026-01-06 from 2026-01-06" + strings.Repeat("\nrepeal 1", api.MaxOps+1), "statute: bound at 101"},
		{strings.Repeat("x", api.MaxText+1), "statute: bound at 0"},
		{"act A made 2026-01-04 from 2026-01-06\n", "statute: day"},
		// What is wrong with the text comes first, then the name, then the days.
		{"act More made 2026-01-04 from 2026-01-06\nrepeal\n", "statute: text at 1"}, {"act More made 2026-01-04 from 2026-01-06\n", "statute: name"},
	} {
		acts := []string{more}
		if c.act == none {
			acts = append(acts, none)
		}
		d := deskOf(t, house, acts...)
		was := d.Journal()
		err := d.Pass(c.act)
		if got := faultText(err); got != c.want {
			t.Errorf("%.60q: %s; want %s", c.act, got, c.want)
		}
		if err != nil && d.Journal() != was || err == nil && d.Journal() == was {
			t.Errorf("%.60q: %q", c.act, d.Journal())
		}
	}
}

func TestP160AsManyActsAsCanBe(t *testing.T) {
	d := deskOf(t, house)
	for i := range api.MaxActs {
		pass(t, d, fmt.Sprintf("act A%d made 2026-01-05 from 2026-01-05\n", i))
	}
	was := d.Journal()
	if err := d.Pass("act B made 2026-01-05 from 2026-01-05\n"); err != api.ErrBound || d.Journal() != was {
		t.Error(err)
	}
}

func TestP160Add(t *testing.T) {
	for _, c := range []struct {
		x    facts.Fact
		want error
	}{
		{is(0, "here", 0), nil},
		{facts.Fact{Who: 39, Name: "child", Other: 0, Value: 0, From: 1, To: 2, Learnt: api.MaxDay}, nil},
		{facts.Fact{Name: "if_", Other: -1, Value: -api.MaxCoin, From: api.MaxDay, Learnt: 1}, nil},
		{is(0, "Here", 0), api.ErrName}, {is(0, "", 0), api.ErrName}, {is(0, "a b", 0), api.ErrName}, {is(0, "a\n", 0), api.ErrName},
		{is(-1, "here", 0), api.ErrKind}, {is(40, "here", 0), api.ErrKind},
		{facts.Fact{Name: "child", Other: 0, From: 1, Learnt: 1}, api.ErrKind}, {facts.Fact{Name: "child", Other: -2, From: 1, Learnt: 1}, api.ErrKind},
		{facts.Fact{Name: "here", Other: -1, Value: api.MaxCoin + 1, From: 1, Learnt: 1}, api.ErrCoin},
		{is(0, "here", -jan), api.ErrDay}, {facts.Fact{Name: "here", Other: -1, From: 0, Learnt: 1}, api.ErrDay},
		{facts.Fact{Name: "here", Other: -1, From: 2, To: 2, Learnt: 1}, api.ErrDay},
		// In this order.
		{facts.Fact{Name: "9", Other: 0, Value: math.MaxInt}, api.ErrName}, {facts.Fact{Name: "a", Other: 0, Value: math.MaxInt}, api.ErrKind}, {facts.Fact{Name: "a", Other: 1, Value: math.MaxInt}, api.ErrCoin},
	} {
		d := deskOf(t, house)
		was := d.Journal()
		if err := d.Add(c.x); err != c.want || (err == nil) != (d.Journal() != was) {
			t.Errorf("%+v: %v; want %v", c.x, err, c.want)
		}
	}
}

func TestP160AsManyFactsAsCanBe(t *testing.T) {
	d := deskOf(t, house)
	for i := range api.MaxFacts {
		add(t, d, is(i%api.MaxPeople, "here", i))
	}
	was := d.Journal()
	for _, x := range []facts.Fact{is(0, "here", 0), is(0, "?", 0)} {
		if err := d.Add(x); err != api.ErrBound || d.Journal() != was {
			t.Error(err)
		}
	}
}

func TestP161Law(t *testing.T) {
	d := deskOf(t, house, more, none, "act End made 2026-01-07 from 2026-01-20 until 2026-01-25\nrepeal 1\n")
	changed := strings.Replace(house, "310", "620", 1)
	couldNot := []force.Note{{Act: "None", Change: 1, Err: api.ErrPath}}
	for _, c := range []struct {
		on, known int
		want      string
		notes     []force.Note
	}{
		{0, 0, house, nil}, {0, -jan + 1, house, nil}, {9, 100, house, nil}, {9999, 3, house, nil},
		{10, 100, changed, nil}, {10, 4, changed, nil}, {99, 4, changed, nil},
		{11, 100, changed, couldNot}, {11, 5, changed, couldNot}, {11, 4, changed, nil},
		{19, 6, strings.TrimSuffix(changed, "1 Doors\n"), couldNot}, {23, 6, strings.TrimSuffix(changed, "1 Doors\n"), couldNot},
		{24, 6, changed, couldNot}, {18, 6, changed, couldNot}, {19, 5, changed, couldNot},
		{api.MaxDay - jan, api.MaxDay - jan, changed, couldNot},
	} {
		for range 2 {
			text, notes, ok := d.Law(jan+c.on, jan+c.known)
			if text != c.want || !slices.Equal(notes, c.notes) || !ok {
				t.Errorf("on %d, known %d: %q, %v, %v", c.on, c.known, text, notes, ok)
			}
		}
	}
	for _, none := range append([]int{jan - 1, 1}, noDays...) {
		if text, notes, ok := d.Law(none, jan+9); text != "" || notes != nil || ok {
			t.Error(none, text, notes, ok)
		}
	}
	for _, none := range noDays {
		if text, notes, ok := d.Law(jan+9, none); text != "" || notes != nil || ok {
			t.Error(none, text, notes, ok)
		}
	}
}

func TestP161ALawThatIsTooLongIsNotWritten(t *testing.T) {
	line := "| " + strings.Repeat("x", api.MaxLine) + "\n"
	d := deskOf(t, "law\n"+strings.Repeat(line, 40)+"1\n"+strings.Repeat("  "+line, 40)+"2\n  | rule r: elig\n")
	var text strings.Builder
	text.WriteString("act Long made 2026-01-02 from 2026-01-03")
	for range 39 {
		text.WriteString("\nadd 0 of 2: " + strings.Repeat("y", api.MaxLine))
	}
	pass(t, d, text.String(), none)
	if text, notes, ok := d.Law(jan+1, jan+1); len(text) < 24000 || notes != nil || !ok {
		t.Error(len(text), notes, ok)
	}
	if text, notes, ok := d.Law(jan+20, jan+20); text != "" || len(notes) != 1 || !ok {
		t.Error(len(text), notes, ok)
	}
	if a, err := d.Ask(caseOf(0, 20, 20)); err != nil || len(a.Names) != 1 {
		t.Error(a, err)
	}
}

func TestP161Ask(t *testing.T) {
	d := deskOf(t, house, more, "act Ban made 2026-01-09 from 2026-01-15\nwords of law: \"banned\" becomes \"here\"\n")
	add(t, d, is(3, "here", 6), is(4, "here", 0), is(4, "banned", 7))
	for _, c := range []struct {
		who, on, known int
		want           string
	}{
		{3, 9, 6, "1 2 31000 500"}, {3, 10, 6, "1 2 62000 500"}, {3, 10, 5, "2 2 0 500"}, {3, 9, 5, "2 2 0 500"}, {4, 10, 3, "1 2 31000 500"},
		{4, 10, 7, "2 1 0 500"}, {4, 10, 6, "1 2 62000 500"}, {3, 14, 7, "1 2 62000 500"}, {3, 14, 8, "2 1 0 500"}, {5, 14, 8, "2 2 0 500"},
	} {
		for range 2 {
			a, err := d.Ask(caseOf(c.who, c.on, c.known))
			if err != nil || !slices.Equal(a.Names, []string{"elig"}) {
				t.Fatal(a, err)
			}
			if got := fmt.Sprint(a.Known.Holds[0], a.Known.Holds[1], a.Amounts[0].Cents, a.Amounts[1].Cents); got != c.want {
				t.Errorf("%+v: %s", c, got)
			}
		}
	}
}

func TestP161WhatIsWrongWithAnAsk(t *testing.T) {
	d := deskOf(t, house, "act Ring made 2026-01-05 from 2026-01-11\nline 3 of law: amount rent: rent + 1\n", "act Odd made 2026-01-07 from 2026-01-11\nadd 0 of law: rule x: y; over z\nadd 0 of law: rule z: y; over x\n")
	for _, c := range []struct {
		c    decide.Case
		want error
		why  error
	}{
		{caseOf(0, 9, 9), nil, nil}, {caseOf(39, 9, 9), nil, nil},
		{caseOf(-1, 9, 9), api.ErrKind, api.ErrKind}, {caseOf(40, 9, 9), api.ErrKind, api.ErrKind},
		{caseOf(0, -1, 9), api.ErrDay, api.ErrDay}, {caseOf(0, -jan, 9), api.ErrDay, api.ErrDay}, {caseOf(0, 9, -jan), api.ErrDay, api.ErrDay},
		{decide.Case{On: api.MaxDay + 1, Known: jan}, api.ErrDay, api.ErrDay}, {decide.Case{On: jan, Known: api.MaxDay + 1}, api.ErrDay, api.ErrDay},
		{decide.Case{On: math.MinInt, Known: math.MaxInt}, api.ErrDay, api.ErrDay},
		{caseOf(0, 10, 4), api.ErrOrder, nil}, {caseOf(0, 10, 3), nil, nil}, {caseOf(0, 10, 6), api.ErrOrder, api.ErrOrder},
		// Without a law nobody is asked for.
		{caseOf(-1, -1, 9), api.ErrDay, api.ErrDay},
	} {
		for range 2 {
			a, err := d.Ask(c.c)
			if err != c.want || err != nil && !reflect.DeepEqual(a, decide.Answer{}) {
				t.Errorf("%+v: %+v, %v; want %v", c.c, a, err, c.want)
			}
			rows, is, err := d.Why(c.c, "elig", true)
			if err != c.why || err != nil && (rows != nil || is) {
				t.Errorf("%+v: %q, %v, %v; want %v", c.c, rows, is, err, c.why)
			}
		}
	}
}

func TestP161Why(t *testing.T) {
	d := deskOf(t, house, more)
	add(t, d, is(3, "here", 6), is(4, "here", 0), is(4, "banned", 7))
	for _, c := range []struct {
		c        decide.Case
		name     string
		positive bool
		want     string
	}{
		{caseOf(3, 9, 6), "elig", true, "holds elig"}, {caseOf(3, 9, 5), "elig", true, "fails elig"}, {caseOf(3, 9, 6), "elig", false, "fails not elig"},
		{caseOf(4, 9, 7), "elig", false, "holds not elig"}, {caseOf(4, 9, 7), "elig", true, "fails elig"}, {caseOf(4, 9, 6), "elig", true, "holds elig"},
		{caseOf(3, 9, 6), "basic", true, ""}, {caseOf(3, 9, 6), "", true, ""}, {caseOf(3, 9, 6), "here", true, ""},
	} {
		for range 2 {
			rows, is, err := d.Why(c.c, c.name, c.positive)
			if err != nil || is != (c.want != "") || is && rows[len(rows)-1] != c.want || !is && rows != nil {
				t.Errorf("%+v: %q, %v, %v", c, rows, is, err)
			}
		}
	}
}

func TestP161Due(t *testing.T) {
	d := deskOf(t, house, more)
	add(t, d, is(3, "here", 6))
	for _, c := range []struct {
		who                  int
		name                 string
		from, to, known, way int
		want                 string
		err                  error
	}{
		{3, "basic", 0, 31, 6, api.HalfUp, "[{739617 739648 52000}]", nil}, {3, "basic", 0, 31, 5, api.HalfUp, "[{739617 739648 0}]", nil},
		{3, "basic", 0, 31, 3, api.HalfUp, "[{739617 739648 0}]", nil}, {3, "rent", 0, 1, 3, api.Up, "[{739617 739618 17}]", nil},
		{3, "rent", 0, 1, 3, api.Down, "[{739617 739618 16}]", nil}, {3, "rent", -1, 1, 3, api.Down, "[{739616 739617 0} {739617 739618 16}]", nil},
		{3, "none", 0, 1, 3, api.Down, "[{739617 739618 0}]", nil}, {3, "rent", 0, 0, 3, api.Down, "[]", nil},
		{3, "rent", 0, -1, 3, api.Down, "[]", api.ErrDay}, {3, "rent", -jan, 1, 3, api.Down, "[]", api.ErrDay}, {3, "rent", 0, 1, -jan, api.Down, "[]", api.ErrDay},
		{3, "rent", 0, 4001, 3, api.Down, "[]", api.ErrBound}, {40, "rent", 0, 1, 3, api.Down, "[]", api.ErrKind}, {40, "rent", -1, 0, 3, api.Down, "[{739616 739617 0}]", nil},
		{3, "rent", 0, 1, 3, -1, "[]", api.ErrKind}, {3, "rent", 0, 4001, 3, -1, "[]", api.ErrBound},
	} {
		for range 2 {
			pays, err := d.Due(c.who, c.name, jan+c.from, jan+c.to, jan+c.known, c.way)
			if fmt.Sprint(pays) != c.want || err != c.err || err != nil && pays != nil {
				t.Errorf("%+v: %v, %v", c, pays, err)
			}
		}
	}
}

func TestP1NoDesk(t *testing.T) {
	none, err := New("", jan)
	if none != nil || err == nil {
		t.Fatal(none, err)
	}
	for _, d := range []*Desk{none, {}} {
		if err := d.Pass(more); err != api.ErrBound {
			t.Error(err)
		}
		if err := d.Pass(""); faultText(err) != "statute: text at 0" {
			t.Error(err)
		}
		if err := d.Add(is(0, "here", 0)); err != api.ErrBound {
			t.Error(err)
		}
		if text, notes, ok := d.Law(jan, jan); text != "" || notes != nil || ok {
			t.Error(text, notes, ok)
		}
		if a, err := d.Ask(caseOf(0, 0, 0)); !reflect.DeepEqual(a, decide.Answer{}) || err != api.ErrDay {
			t.Error(a, err)
		}
		if rows, is, err := d.Why(caseOf(0, 0, 0), "elig", true); rows != nil || is || err != api.ErrDay {
			t.Error(rows, is, err)
		}
		if pays, err := d.Due(0, "rent", jan, jan+1, jan, api.Down); fmt.Sprint(pays) != "[{739617 739618 0}]" || err != nil {
			t.Error(pays, err)
		}
		if text, work := d.Journal(), d.Work(); text != "" || work != 0 {
			t.Error(text, work)
		}
	}
}

func TestP4WhatIsAnsweredIsNotTheDesksOwn(t *testing.T) {
	d := deskOf(t, house, more, none)
	add(t, d, is(3, "here", 6))
	c := caseOf(3, 20, 9)
	tell := func() string {
		a, err := d.Ask(c)
		rows, ok, err2 := d.Why(c, "elig", true)
		pays, err3 := d.Due(3, "basic", jan, jan+90, jan+9, api.HalfUp)
		text, notes, there := d.Law(jan+20, jan+9)
		told := fmt.Sprint(a, err, rows, ok, err2, pays, err3, text, notes, there)
		if len(rows) == 0 || len(pays) == 0 || len(notes) == 0 || len(a.Amounts) == 0 {
			t.Fatal(told)
		}
		for i := range a.Names {
			a.Names[i] = "x"
		}
		for i := range a.Known.Holds {
			a.Known.Holds[i], a.Known.Sure[i] = -7, -7
		}
		a.Amounts[0], rows[0], pays[0], notes[0] = decide.Amount{}, "x", sums.Pay{}, force.Note{}
		return told
	}
	first := tell()
	for range 3 {
		if again := tell(); again != first {
			t.Errorf("%s; was %s", again, first)
		}
	}
}

func TestP2TwoDesksDoNotSeeEachOther(t *testing.T) {
	a, b := deskOf(t, house), deskOf(t, house)
	c := caseOf(3, 20, 9)
	if x, err := b.Ask(c); err != nil || x.Known.Holds[0] != api.No {
		t.Error(x, err)
	}
	was := b.Journal()
	add(t, a, is(3, "here", 6))
	pass(t, a, more)
	if x, err := a.Ask(c); err != nil || x.Known.Holds[0] != api.Yes {
		t.Error(x, err)
	}
	if x, err := b.Ask(c); err != nil || x.Known.Holds[0] != api.No || b.Journal() != was {
		t.Error(x, err)
	}
}

// bookOf a law from jan on, and acts, as texts.
func bookOf(t *testing.T, law string, acts ...string) *force.Book {
	t.Helper()
	l, err := script.Read(law)
	if err != nil {
		t.Fatal(err)
	}
	b, err := force.New(l, jan)
	if err != nil {
		t.Fatal(err)
	}
	for _, text := range acts {
		a, err := amend.ReadAct(text)
		if err == nil {
			err = b.Pass(a)
		}
		if err != nil {
			t.Fatal(err)
		}
	}
	return b
}

func TestP161AskIsDecideByTheLawInForce(t *testing.T) {
	d, b, f := deskOf(t, pension, "act A made 2026-01-03 from 2026-01-04\nrepeal 1\n"), bookOf(t, pension, "act A made 2026-01-03 from 2026-01-04\nrepeal 1\n"), facts.New()
	for _, x := range []facts.Fact{is(0, "old", 1), is(1, "old", 2), is(1, "banned", 4), is(2, "banned", 0)} {
		add(t, d, x)
		if err := f.Add(x); err != nil {
			t.Fatal(err)
		}
	}
	for who := range 3 {
		for on := range 6 {
			for known := range 6 {
				c := caseOf(who, on, known)
				l, _, _ := b.At(c.On, c.Known)
				want, err := decide.Decide(l, f, c)
				got, err2 := d.Ask(c)
				if !reflect.DeepEqual(got, want) || err != err2 {
					t.Errorf("%+v: %+v, %v; want %+v, %v", c, got, err2, want, err)
				}
			}
		}
	}
}
