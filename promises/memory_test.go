package promises

import (
	"testing"

	"statute/amend"
	"statute/api"
	"statute/cases"
	"statute/coin"
	"statute/day"
	"statute/decide"
	"statute/desk"
	"statute/duties"
	"statute/facts"
	"statute/force"
	"statute/gaps"
	"statute/ledger"
	"statute/reason"
	"statute/script"
	"statute/sums"
	"statute/terms"
	"statute/why"
)

const house = `law Of houses
| define old: age >= 65 and not (banned or gone)
| rule r1: elig if old
| rule r2: not elig if banned; over r1
| amount basic: 310 if elig
1 Doors
2 Roofs
  | rule r3: elig if here
  a Tiles
  b
`

const change = `act A made 0001-02-10 from 0001-02-10
put in 1:
  z New
    a
    b
put in 1/z/a:
  c
add 0 of 1: a line
line 0 of 2: rule r3: elig if old
words of 2: "old" becomes "here"
drop 0 of 2
move 2/a to 2/b
label 2: 3
repeal 3/b/a
move 1/z to 3/b
`

// must be right, what the tests begin with.
func must[T any](x T, err error) T {
	if err != nil {
		panic(err)
	}
	return x
}

func law() api.Item { return roomy(must(script.Read(house))) }

func act() api.Act { return roomy(must(amend.ReadAct(change))) }

// book with that law and that act.
func book() *force.Book {
	b := must(force.New(law(), 40))
	return must(b, b.Pass(act()))
}

// file of somebody, and of others.
func file() *facts.File {
	f := facts.New()
	for _, x := range []facts.Fact{
		{Who: 0, Name: "age", Other: -1, Value: 6700, From: 1, Learnt: 1},
		{Who: 0, Name: "here", Other: -1, Value: 100, From: 45, To: 50, Learnt: 2},
		{Who: 0, Name: "child", Other: 3, Value: 1, From: 1, Learnt: 1},
		{Who: 3, Name: "here", Other: -1, Value: 100, From: 45, To: 50, Learnt: 2},
	} {
		f = must(f, f.Add(x))
	}
	return f
}

func TestP4MemoryOfAmountsAndDays(t *testing.T) {
	weights, bands := roomy([]int{1, 1, 1}), roomy([]coin.Band{{From: 0, Rate: 5}, {From: 9, Rate: 7}})
	cal := roomy(&day.Calendar{Holidays: []int{9, 5, 5, 7}})
	checkMemory(t, "Share", all(weights), func() []any { return all(coin.Share(100, weights)) })
	checkMemory(t, "Share below 0", all(weights), func() []any { return all(coin.Share(-100, weights)) })
	checkMemory(t, "Bands", all(bands), func() []any { return all(coin.Bands(100, bands, api.Floor)) })
	checkMemory(t, "a calendar", all(cal), func() []any {
		must(cal.Due(4, day.Term{N: 2, Unit: api.Working}))
		must(cal.Roll(5, api.Next))
		return all(cal.Works(5), cal.Count(1, 9), cal.Plan(), cal.Plan())
	})
}

func TestP4MemoryOfLaws(t *testing.T) {
	l := law()
	for _, path := range []string{"", "1", "2", "2/a", "9"} {
		checkMemory(t, "Find "+path, all(l), func() []any { return all(script.Find(l, path)) })
	}
	checkMemory(t, "Each", all(l), func() []any { return all(script.Each(l, 9)) })
	checkMemory(t, "Each of a few", all(l), func() []any { return all(script.Each(l, 2)) })
	checkMemory(t, "Write", all(l), func() []any { return all(script.Valid(l), must(script.Write(l))) })
	checkMemory(t, "Read", nil, func() []any { return all(script.Read(house)) })
	odd := roomy(api.Item{Label: "?", Lines: []string{"\n"}, Kids: []api.Item{{}, {}, {Kids: []api.Item{{}}}}})
	checkMemory(t, "Each of what is no law", all(odd), func() []any { return all(script.Each(odd, 9)) })
	checkMemory(t, "Find in what is no law", all(odd), func() []any { return all(script.Find(odd, "")) })
}

// A list of kids that lies within itself: only a part of it is answered.
func TestP4MemoryOfLawsWithoutAnEnd(t *testing.T) {
	l := law()
	l.Kids[1].Kids[1].Kids = l.Kids
	kids := l.Kids[:3]
	checkMemory(t, "Find", nil, func() []any { return all(script.Find(l, "")) })
	checkMemory(t, "Each", nil, func() []any { return all(script.Each(l, 9)) })
	if kids[2].Label != "blot" {
		t.Errorf("%v was written into the room behind a list", kids[2].Label)
	}
}

func TestP4MemoryOfChanges(t *testing.T) {
	l, a := law(), act()
	other := must(amend.Apply(l, a.Ops))
	young := roomy(other)
	checkMemory(t, "Apply", all(l, a), func() []any { return all(must(amend.Apply(l, a.Ops))) })
	checkMemory(t, "Apply nothing", all(l), func() []any { return all(must(amend.Apply(l, nil))) })
	for count := range a.Ops {
		// The last of them cannot be made.
		ops := append(a.Ops[:count:count], api.Op{Kind: api.OPut, Path: "1", Item: api.Item{Label: "?"}})
		checkMemory(t, "Apply what cannot be made", all(l, a, ops), func() []any { return all(amend.Apply(l, ops)) })
	}
	checkMemory(t, "Between", all(l, young), func() []any { return all(must(amend.Between(l, young))) })
	checkMemory(t, "Between, back", all(l, young), func() []any { return all(must(amend.Between(young, l))) })
	checkMemory(t, "Between, from nothing", all(l), func() []any { return all(must(amend.Between(api.Item{}, l))) })
	checkMemory(t, "Apart", all(a), func() []any { return all(amend.Apart(a.Ops, a.Ops)) })
	checkMemory(t, "WriteAct", all(a), func() []any { return all(must(amend.WriteAct(a))) })
	checkMemory(t, "ReadAct", nil, func() []any { return all(must(amend.ReadAct(change))) })
}

func TestP4MemoryOfBooks(t *testing.T) {
	l, a := law(), act()
	wrong := roomy(api.Act{Name: "B", Made: 42, From: 43, Ops: []api.Op{{Kind: api.ORepeal, Path: "9"}}})
	checkMemory(t, "a book", all(l, a, wrong), func() []any {
		b := must(force.New(l, 40))
		must(b, b.Pass(a))
		must(b, b.Pass(wrong))
		answers := all(b.Days(60), b.Days(60), b.Learnt(60), b.Learnt(60))
		for range 2 {
			for _, on := range []int{40, 41, 60} {
				answers = append(answers, all(b.At(on, 60))...)
			}
			for _, path := range []string{"", "1", "2/b", "3/b"} {
				answers = append(answers, all(b.Past(path, 60))...)
			}
		}
		return append(answers, b)
	})
}

func TestP4MemoryOfSentences(t *testing.T) {
	l := law()
	list, _ := terms.All(l)
	list = roomy(list)
	checkMemory(t, "All", all(l), func() []any { return all(terms.All(l)) })
	checkMemory(t, "Meant", all(list), func() []any { return all(terms.Meant(list, "2/a", "old")) })
	checkMemory(t, "Opened", all(list), func() []any { return all(must(terms.Opened(list, "2", list[1].Sentence.If))) })
	for _, p := range list {
		checkMemory(t, "Write", all(p), func() []any { return all(must(terms.Write(p.Sentence))) })
		line := must(terms.Write(p.Sentence))
		checkMemory(t, "Read "+line, nil, func() []any { return all(terms.Read(line)) })
	}
	n := roomy(terms.Node{Kind: "and", Kids: []terms.Node{{Kind: "name", Word: "old"}, {Kind: "name", Word: "old"}, {Kind: "?"}}})
	checkMemory(t, "Opened, twice the same", all(list, n), func() []any { return all(must(terms.Opened(list, "2", n))) })
	list[0].Sentence.If = n
	checkMemory(t, "Meant, what is no condition", all(list), func() []any { return all(terms.Meant(list, "", "old")) })
}

func TestP4MemoryOfFacts(t *testing.T) {
	f := file()
	read := func(line string) terms.Sentence {
		s, _, err := terms.Read(line)
		return roomy(must(s, err))
	}
	s := read("amount a: max(age, 3) * 5% + count child + total here of child if here or some child (here)")
	checkMemory(t, "Holds", all(f, s), func() []any { return all(must(f.Holds(s.If, 0, 45, 45))) })
	checkMemory(t, "Sum", all(f, s), func() []any { return all(must(f.Sum(s.Sum, 0, 45, 45))) })
	checkMemory(t, "a file", nil, func() []any {
		return all(f.Others(0, "child", 45, 45), f.Others(0, "child", 45, 45), f.Turns(-1, 45), f.Turns(-1, 45), f.Learnt(), f.Learnt(), f)
	})
}

func TestP4MemoryOfRulesAndExplanations(t *testing.T) {
	th := roomy(reason.Theory{Names: 2, Rules: []reason.Rule{
		{Kind: api.Defeasible, Head: 1},
		{Kind: api.Defeasible, Head: -1, Body: []int{2}},
		{Kind: api.Strict, Head: 2},
	}, Over: [][2]int{{1, 0}}})
	goal, names := why.Step{Literal: 1}, roomy([]string{"elig", "old"})
	steps, _, err := why.Explain(th, goal)
	steps = roomy(must(steps, err))
	checkMemory(t, "Solve", all(th), func() []any { return all(reason.Valid(th), must(reason.Solve(th))) })
	checkMemory(t, "Explain", all(th), func() []any { return all(why.Explain(th, goal)) })
	checkMemory(t, "Check", all(th, steps), func() []any { return all(must(why.Check(th, steps))) })
	checkMemory(t, "Text", all(steps, names), func() []any { return all(why.Text(steps, names)) })
	text := why.Text(steps, names)
	checkMemory(t, "Read", all(names), func() []any { return all(must(why.Read(text, names))) })
	rulings := roomy([]cases.Ruling{{Head: 1, Rank: 1}, {Head: -1, Body: []int{2}}})
	checkMemory(t, "Follow", all(th, rulings), func() []any { return all(must(cases.Follow(th, rulings))) })
	checkMemory(t, "Follow nothing", all(th), func() []any { return all(must(cases.Follow(th, nil))) })
}

func TestP4MemoryOfDecisions(t *testing.T) {
	l, f, b := law(), file(), book()
	c := decide.Case{Who: 0, On: 45, Known: 45}
	checkMemory(t, "Theory", all(l, f), func() []any { return all(decide.Theory(l, f, c)) })
	checkMemory(t, "Decide", all(l, f), func() []any { return all(must(decide.Decide(l, f, c))) })
	checkMemory(t, "Why", all(l, f), func() []any { return all(decide.Why(l, f, c, "elig", true)) })
	daily := roomy(must(sums.Daily(b, f, 0, "basic", 41, 60, 45)))
	checkMemory(t, "Daily", all(b, f), func() []any { return all(must(sums.Daily(b, f, 0, "basic", 41, 60, 45))) })
	checkMemory(t, "Months", all(daily), func() []any { return all(must(sums.Months(daily, 41, api.Down))) })
	checkMemory(t, "Due", all(b, f), func() []any { return all(must(sums.Due(b, f, 0, "basic", 41, 60, 45, api.Down))) })
}

func TestP4MemoryOfDutiesAndAccounts(t *testing.T) {
	list := roomy([]duties.Duty{{Name: "pay", Who: "ann", From: 5, By: 9, Else: "fine", Term: day.Term{N: 5}}, {Name: "go", Who: "bob", From: 7, By: 30}})
	events := roomy([]duties.Event{{Day: 12, Name: "pay", Who: "ann"}, {Day: 8, Name: "go", Who: "bob", Waive: true}})
	cal := roomy(&day.Calendar{Holidays: []int{14}})
	checkMemory(t, "States", all(list, events, cal), func() []any { return all(must(duties.States(list, events, cal, 20))) })
	checkMemory(t, "Next", all(list, events, cal), func() []any { return all(must(duties.Next(list, events, cal, 6))) })
	entries := roomy([]ledger.Entry{{Day: 1}, {Day: 2, Lines: []ledger.Line{{Account: "b", Cents: 5}, {Account: "a", Cents: -5}}}})
	checkMemory(t, "a ledger", all(entries), func() []any {
		g := ledger.New()
		for _, e := range entries {
			must(g, g.Post(e))
		}
		return all(g.Entries(), g.Entries(), g.Accounts(), g.Accounts(), g)
	})
	checkMemory(t, "Sheet", all(entries), func() []any { return all(must(ledger.Sheet(entries))) })
	claims := roomy([]ledger.Claim{{Day: 3}, {Day: 31, Due: []sums.Pay{{From: 1, To: 31, Cents: 25000}}}, {Day: 40}})
	checkMemory(t, "Settle", all(claims), func() []any { return all(must(ledger.Settle(claims, 5000))) })
}

func TestP4MemoryOfTables(t *testing.T) {
	const text = "ask age: child, adult, old\nask here: yes, no\nif age child|old, here yes then pay\nif here none then no\nif age adult then no\nalways then pay\n"
	table := roomy(must(gaps.Read(text)))
	other := roomy(must(gaps.Parted(table)))
	other.Rows = other.Rows[1:]
	c := roomy([]int{1, 1})
	checkMemory(t, "Read", nil, func() []any { return all(must(gaps.Read(text))) })
	checkMemory(t, "Write", all(table), func() []any { return all(gaps.Valid(table), must(gaps.Write(table))) })
	checkMemory(t, "Gap", all(other), func() []any { return all(gaps.Gap(other)) })
	checkMemory(t, "Clash", all(table), func() []any { return all(gaps.Clash(table)) })
	checkMemory(t, "Idle", all(table), func() []any { return all(must(gaps.Idle(table))) })
	checkMemory(t, "Says", all(table, c), func() []any { return all(table.Says(c)) })
	checkMemory(t, "Same", all(table, other), func() []any { return all(gaps.Same(table, other)) })
	checkMemory(t, "Parted", all(table), func() []any { return all(must(gaps.Parted(table))) })
}

func TestP4MemoryOfCases(t *testing.T) {
	plan := roomy(cases.Plan{Start: "filed", Final: []string{"closed"}, Moves: []cases.Move{
		{Name: "decide", From: "filed", To: "decided", Who: "judge"},
		{Name: "appeal", From: "decided", To: "filed", Who: "ann", Within: day.Term{N: 14}, Most: 1},
		{Name: "close", From: "decided", To: "closed", Who: "clerk"},
	}})
	cal := roomy(&day.Calendar{Holidays: []int{114}})
	checkMemory(t, "a case", all(plan, cal), func() []any {
		k := must(cases.Open(plan, 100, cal))
		before := k.Steps()
		must(k, k.Do(cases.Step{Move: "decide", Who: "judge", Day: 110}))
		return all(cases.Valid(plan), before, k.Steps(), k.Steps(), k.May(111), k.May(111), k)
	})
}

func TestP4MemoryOfDesks(t *testing.T) {
	checkMemory(t, "a desk", nil, func() []any {
		d := must(desk.New(house, 40))
		must(d, d.Pass(change))
		must(d, d.Pass("act B made 0001-02-11 from 0001-02-11\nrepeal 9\n"))
		f := file()
		for k := range f.Size() {
			x, _ := f.Fact(k)
			must(d, d.Add(x))
		}
		c := decide.Case{Who: 0, On: 45, Known: 45}
		var answers []any
		for range 2 {
			answers = append(answers, all(d.Law(45, 45))...)
			answers = append(answers, all(d.Ask(c))...)
			answers = append(answers, all(d.Why(c, "elig", true))...)
			answers = append(answers, all(d.Due(0, "basic", 41, 60, 45, api.Down))...)
		}
		again, _, err := desk.Open(d.Journal())
		return append(answers, d, must(again, err))
	})
}
