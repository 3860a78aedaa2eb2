package sums

import (
	"fmt"
	"math/rand"
	"slices"
	"strconv"
	"strings"
	"testing"

	"statute/amend"
	"statute/api"
	"statute/decide"
	"statute/facts"
	"statute/force"
	"statute/script"
)

// bookOf a law, as a form without its first line, from a day on.
func bookOf(t *testing.T, form string, on int, acts ...api.Act) *force.Book {
	t.Helper()
	l, err := script.Read("law\n" + form)
	if err != nil {
		t.Fatalf("%s: %v", form, err)
	}
	b, err := force.New(l, on)
	if err != nil {
		t.Fatal(err)
	}
	for _, a := range acts {
		if err := b.Pass(a); err != nil {
			t.Fatalf("%s: %v", a.Name, err)
		}
	}
	return b
}

// act of a name, days, and changes as texts.
func act(t *testing.T, name string, made, from, until int, changes string) api.Act {
	t.Helper()
	a, err := amend.ReadAct("act A made 2026-01-01 from 2026-01-01\n" + changes)
	if err != nil {
		t.Fatal(err)
	}
	return api.Act{Name: name, Made: made, From: from, Until: until, Ops: a.Ops}
}

func fileOf(t *testing.T, list ...facts.Fact) *facts.File {
	t.Helper()
	f := facts.New()
	for _, x := range list {
		if err := f.Add(x); err != nil {
			t.Fatalf("%+v: %v", x, err)
		}
	}
	return f
}

// is a fact of somebody, from a day on, up to a day, learnt on the first one.
func is(who int, name string, value, from, to int) facts.Fact {
	return facts.Fact{Who: who, Name: name, Other: -1, Value: value, From: from, To: to, Learnt: 1}
}

// stands is such a fact of two.
func stands(who int, name string, other, from, to int) facts.Fact {
	return facts.Fact{Who: who, Name: name, Other: other, Value: 1, From: from, To: to, Learnt: 1}
}

// dailyText tells amounts, or the error beside which there are none.
func dailyText(daily []int, err error) string {
	if err != nil {
		if daily != nil {
			return "something beside an error"
		}
		return err.Error()
	}
	return fmt.Sprint(daily)
}

const house = "| amount basic: 310 if here\n| amount rent: 5\n1\n  | amount kids: 10 * 50% + total pocket of child if some child (young)\n"

func TestP111Daily(t *testing.T) {
	b := bookOf(t, house, 100,
		act(t, "A", 50, 105, 108, "line 0 of law: amount basic: 620\n"),
		act(t, "B", 103, 107, 0, "repeal 1\n"),
		act(t, "C", 103, 109, 0, "repeal 2\n"),
	)
	f := fileOf(t,
		is(0, "here", 100, 102, 106), is(0, "here", 100, 109, 0),
		facts.Fact{Who: 0, Name: "here", Other: -1, Value: 0, From: 103, To: 104, Learnt: 103},
		stands(0, "child", 1, 1, 105), stands(0, "child", 2, 103, 0), is(1, "young", 1, 1, 102), is(2, "young", 1, 104, 106),
		is(1, "pocket", 33, 1, 105), is(2, "pocket", 7, 105, 0),
	)
	for _, c := range []struct {
		who             int
		name            string
		from, to, known int
		want            string
	}{
		{0, "basic", 98, 112, 102, "[0 0 0 0 31000 31000 31000 62000 62000 62000 0 31000 31000 31000]"},
		// What was learnt later.
		{0, "basic", 98, 112, 103, "[0 0 0 0 31000 0 31000 62000 62000 62000 0 31000 31000 31000]"},
		// What was made later.
		{0, "basic", 98, 112, 49, "[0 0 0 0 31000 31000 31000 31000 0 0 0 31000 31000 31000]"},
		{0, "rent", 98, 103, 49, "[0 0 500 500 500]"},
		// What is so of others.
		{0, "kids", 99, 109, 102, "[0 533 533 0 0 533 507 0 0 0]"},
		{0, "kids", 99, 109, 49, "[0 533 533 0 0 533 507 0 0 0]"},
		{1, "basic", 104, 107, 200, "[0 62000 62000]"},
		{api.MaxPeople - 1, "rent", 104, 106, 200, "[500 500]"},
		// No such amount.
		{0, "none", 99, 102, 200, "[0 0 0]"}, {0, "", 99, 102, 200, "[0 0 0]"}, {0, "here", 103, 105, 200, "[0 0]"}, {0, "Basic ", 103, 105, 200, "[0 0]"},
		{0, "kids", 106, 109, 200, "[0 0 0]"},
		// Some days, or none.
		{0, "basic", 105, 106, 200, "[62000]"}, {0, "basic", 104, 105, 200, "[31000]"}, {0, "basic", 105, 105, 200, "[]"},
		{0, "rent", api.MaxDay - 2, api.MaxDay, api.MaxDay, "[500 500]"}, {0, "rent", 1, 3, 1, "[0 0]"},
		{0, "rent", api.MaxDay, api.MaxDay, 1, "[]"},
	} {
		if got := dailyText(Daily(b, f, c.who, c.name, c.from, c.to, c.known)); got != c.want {
			t.Errorf("%+v: %s", c, got)
		}
	}
}

func TestP111TheLawSaysWhatFollows(t *testing.T) {
	b := bookOf(t, "| rule r1: elig if old\n| rule r2: not elig if banned; over r1\n| amount pension: basic * 33.33% if elig; round up\n| amount basic: 1\n", 5)
	f := fileOf(t, is(3, "old", 1, 6, 0), is(3, "banned", 1, 8, 10))
	if got := dailyText(Daily(b, f, 3, "pension", 4, 12, 1)); got != "[0 0 34 34 0 0 34 34]" {
		t.Error(got)
	}
}

func TestP111NoBookNoFile(t *testing.T) {
	b := bookOf(t, house, 5)
	f := fileOf(t, is(0, "here", 1, 1, 0))
	for _, c := range []struct {
		b    *force.Book
		f    *facts.File
		name string
		want string
	}{
		{nil, nil, "rent", "[0 0 0]"}, {nil, f, "rent", "[0 0 0]"}, {b, nil, "rent", "[0 500 500]"}, {b, nil, "basic", "[0 0 0]"}, {b, f, "basic", "[0 31000 31000]"},
		{&force.Book{}, &facts.File{}, "rent", "[0 0 0]"},
	} {
		if got := dailyText(Daily(c.b, c.f, 0, c.name, 4, 7, 9)); got != c.want {
			t.Errorf("%s: %s; want %s", c.name, got, c.want)
		}
	}
}

func TestP111Errors(t *testing.T) {
	b := bookOf(t, house, 100)
	for _, c := range []struct {
		from, to, known, who int
		want                 error
	}{
		{105, 104, 5, 0, api.ErrDay}, {105, 1, 5, 0, api.ErrDay}, {api.MaxDay, api.MaxDay + 1, 5, 0, api.ErrDay},
		{100, 100 + maxDays, 5, 0, nil}, {100, 101 + maxDays, 5, 0, api.ErrBound}, {1, api.MaxDay, 1, 0, api.ErrBound}, {1, 2 + maxDays, 1, 0, api.ErrBound},
		{105, 106, 5, -1, api.ErrKind}, {105, 106, 5, api.MaxPeople, api.ErrKind}, {90, 101, 5, -1, api.ErrKind},
		// Where nothing is decided, nothing is wrong.
		{105, 105, 5, -1, nil}, {90, 100, 5, -1, nil},
		// The first that is so.
		{1, api.MaxDay, 0, -1, api.ErrDay}, {1, api.MaxDay, 1, -1, api.ErrBound}, {105, 104, 5, -1, api.ErrDay},
	} {
		daily, err := Daily(b, nil, c.who, "rent", c.from, c.to, c.known)
		if err != c.want || err != nil && daily != nil || err == nil && len(daily) != c.to-c.from {
			t.Errorf("%+v: %d days, %v", c, len(daily), err)
		}
	}
	for _, n := range noDays {
		for _, c := range [][3]int{{n, 105, 105}, {105, n, 105}, {105, 106, n}, {n, n, 105}, {n, n, n}, {1, api.MaxDay, n}} {
			if daily, err := Daily(b, nil, 0, "rent", c[0], c[1], c[2]); daily != nil || err != api.ErrDay {
				t.Errorf("%v: %v, %v", c, daily, err)
			}
		}
	}
}

func TestP111TheFirstDaysError(t *testing.T) {
	const great = "amount wide: 9999999999 + more"
	b := bookOf(t, "| amount rent: 5\n| "+great+"\n", 100,
		act(t, "A", 100, 110, 120, "line 0 of law: amount rent: rent\n"),
		act(t, "B", 100, 115, 0, "line 1 of law: x\n"),
	)
	f := fileOf(t, is(0, "more", 100000, 105, 107))
	g := fileOf(t, is(0, "more", 100000, 105, 107), is(0, "more", 100000, 108, 0))
	for _, c := range []struct {
		f        *facts.File
		name     string
		from, to int
		want     string
	}{
		{f, "rent", 103, 105, "[500 500]"}, {f, "rent", 107, 110, "[500 500 500]"}, {f, "rent", 120, 122, "[500 500]"},
		// An error of another amount is the day's, too, and so it is where there is no amount of that name.
		{f, "rent", 103, 106, api.ErrCoin.Error()}, {f, "rent", 106, 112, api.ErrCoin.Error()}, {f, "wide", 100, 4000, api.ErrCoin.Error()}, {f, "none", 103, 106, api.ErrCoin.Error()},
		{f, "rent", 107, 111, api.ErrOrder.Error()}, {f, "rent", 107, 4000, api.ErrOrder.Error()}, {f, "rent", 119, 121, api.ErrOrder.Error()},
		{g, "rent", 107, 4000, api.ErrCoin.Error()}, {g, "rent", 110, 4000, api.ErrOrder.Error()}, {g, "rent", 90, 105, "[0 0 0 0 0 0 0 0 0 0 500 500 500 500 500]"},
	} {
		if got := dailyText(Daily(b, c.f, 0, c.name, c.from, c.to, 100)); got != c.want {
			t.Errorf("%s, %d to %d: %s; want %s", c.name, c.from, c.to, got, c.want)
		}
	}
}

// pick one of some texts.
func pick(r *rand.Rand, texts ...string) string { return texts[r.Intn(len(texts))] }

// someLine is a sentence as a text.
func someLine(r *rand.Rand) string {
	condition := pick(r, "a", "b", "p", "not p", "q", "d", "some kid (a)", "every kid (b or p)", "some kid (every kid (a))", "b > 2", "a and b and q")
	switch r.Intn(6) {
	case 0:
		return "define " + pick(r, "d", "d", "d", "a") + ": " + condition
	case 1, 2:
		return "rule " + pick(r, "r1", "r2", "r3") + ": " + pick(r, "p", "not p", "q") + " if " + condition + pick(r, "", "; over r1")
	case 3:
		return "amount y: " + pick(r, "b", "13", "0.05", "13", "0.05", "x") + pick(r, "", " if "+condition)
	}
	sum := pick(r, "7", "b", "b + 5 * 50%", "y", "total b of kid", "count kid", "max(b, 3)", "b + y", "9999999999 + b")
	return "amount x: " + sum + pick(r, "", " if "+condition)
}

// someBook of a law and acts within a few days.
func someBook(t *testing.T, r *rand.Rand, last int) *force.Book {
	t.Helper()
	form := "| amount x: b + 1 if " + pick(r, "a", "p", "not p", "some kid (a)", "b") + "\n"
	for range 3 {
		form += "| " + someLine(r) + "\n"
	}
	form += "1\n  | " + someLine(r) + "\n"
	var acts []api.Act
	made := 1
	for i := range r.Intn(5) {
		made += r.Intn(4)
		from, until := made+r.Intn(last/2), 0
		if r.Intn(2) > 0 {
			until = from + 1 + r.Intn(last/2)
		}
		changes := pick(r, "repeal 1\n", "line 0 of 1: "+someLine(r)+"\n", "line 1 of law: "+someLine(r)+"\n", "drop 2 of law\n", "add 0 of law: "+someLine(r)+"\n")
		acts = append(acts, act(t, "A"+strconv.Itoa(i), made, from, until, changes))
	}
	return bookOf(t, form, 1+r.Intn(last/2), acts...)
}

// someFile of facts of three people.
func someFile(t *testing.T, r *rand.Rand, last int) *facts.File {
	t.Helper()
	var list []facts.Fact
	for range 24 {
		x := is(r.Intn(3), pick(r, "a", "a", "b", "p"), []int{0, 1, 105, 20000}[r.Intn(4)], 1+r.Intn(last), 0)
		if r.Intn(3) == 0 {
			x.Name, x.Value = "kid", r.Intn(2)
			x.Other = (x.Who + 1 + r.Intn(2)) % 3
		}
		if r.Intn(2) > 0 {
			x.To = x.From + 1 + r.Intn(last/2)
		}
		x.Learnt = 1 + r.Intn(last/2)
		list = append(list, x)
	}
	return fileOf(t, list...)
}

// dayByDay is what the document asks for, each day by itself.
func dayByDay(b *force.Book, f *facts.File, who int, name string, from, to, known int) ([]int, error) {
	var daily []int
	for on := from; on < to; on++ {
		cents := 0
		if l, _, there := b.At(on, known); there {
			answer, err := decide.Decide(l, f, decide.Case{Who: who, On: on, Known: known})
			if err != nil {
				return nil, err
			}
			for _, x := range answer.Amounts {
				if x.Name == name {
					cents = x.Cents
				}
			}
		}
		daily = append(daily, cents)
	}
	return daily, nil
}

func TestP111DayByDay(t *testing.T) {
	const last = 24
	r := rand.New(rand.NewSource(111))
	changing, told := 0, map[error]int{}
	for range 3000 {
		b, f := someBook(t, r, last), someFile(t, r, last)
		who, name, known := r.Intn(3), pick(r, "x", "x", "x", "y"), 1+r.Intn(last)
		from := 1 + r.Intn(last)
		to := from + r.Intn(2*last)
		want, wantErr := dayByDay(b, f, who, name, from, to, known)
		daily, err := Daily(b, f, who, name, from, to, known)
		if err != wantErr || !slices.Equal(daily, want) {
			t.Fatalf("%d, %s, %d to %d, as known on %d: %v, %v; want %v, %v", who, name, from, to, known, daily, err, want, wantErr)
		}
		told[err]++
		if len(slices.Compact(want)) > 2 {
			changing++
		}
	}
	if changing < 300 || told[api.ErrCoin] < 100 || told[api.ErrOrder] < 100 {
		t.Error("too few of a kind:", changing, told)
	}
}

func TestP1ManyDaysOfAGreatLawEnd(t *testing.T) {
	var form strings.Builder
	for i := range 40 {
		fmt.Fprintf(&form, "%d\n  | rule r%d: p%d if a%d and not p%d\n  | amount x%d: b * 50%% + x%d if p%d\n", i+1, i, i, i, i+1, i, i+1, i)
	}
	var acts []api.Act
	for i := range api.MaxActs {
		acts = append(acts, act(t, "A"+strconv.Itoa(i), 1, 100+60*i, 1600+60*i, fmt.Sprintf("head %d: Another\n", i%40+1)))
	}
	b := bookOf(t, form.String(), 100, acts...)
	f := facts.New()
	for i := range api.MaxFacts {
		if err := f.Add(is(0, "a"+strconv.Itoa(i%40), i, 100+8*i, 200+8*i)); err != nil {
			t.Fatal(err)
		}
	}
	if err := f.Add(is(0, "b", 1, 1, 0)); err != api.ErrBound {
		t.Error(err)
	}
	pays, err := Due(b, f, 0, "x0", 101, 101+maxDays, 500, api.HalfUp)
	if err != nil || len(pays) < maxDays/31 {
		t.Error(len(pays), err)
	}
}

func TestP112Due(t *testing.T) {
	from := must(t, "2026-01-30")
	b := bookOf(t, house, from+1)
	f := fileOf(t, is(0, "here", 1, from+2, from+32))
	for _, c := range []struct {
		name     string
		from, to int
		way      int
		want     string
	}{
		{"basic", from, from + 33, api.HalfUp, "2026-01-30 2026-02-01 0; 2026-02-01 2026-03-01 31000; 2026-03-01 2026-03-04 2000; "},
		{"rent", from, from + 3, api.Down, "2026-01-30 2026-02-01 16; 2026-02-01 2026-02-02 17; "},
		{"rent", from, from + 3, api.Up, "2026-01-30 2026-02-01 17; 2026-02-01 2026-02-02 18; "},
		{"none", from, from + 1, api.Up, "2026-01-30 2026-01-31 0; "},
		{"rent", from, from, api.Up, ""},
	} {
		if got := paysText(Due(b, f, 0, c.name, c.from, c.to, from, c.way)); got != c.want {
			t.Errorf("%+v: %s", c, got)
		}
	}
}

func TestP112Errors(t *testing.T) {
	b := bookOf(t, house, 100)
	for _, c := range []struct {
		who, from, to, known, way int
		want                      error
	}{
		{0, 100, 102, 5, 6, api.ErrKind}, {0, 100, 102, 5, -1, api.ErrKind}, {0, 100, 100, 5, 9, api.ErrKind}, {0, 100, 102, 5, api.HalfEven, nil},
		{0, 0, 102, 5, 0, api.ErrDay}, {0, 100, 99, 5, 0, api.ErrDay}, {0, 100, 102, 0, 0, api.ErrDay}, {0, 1, maxDays + 2, 5, 0, api.ErrBound}, {-1, 100, 102, 5, 0, api.ErrKind},
		// Daily's errors, then Months'.
		{0, 0, 102, 5, 9, api.ErrDay}, {0, 1, maxDays + 2, 5, 9, api.ErrBound},
	} {
		pays, err := Due(b, nil, c.who, "rent", c.from, c.to, c.known, c.way)
		if err != c.want || (err != nil) != (pays == nil) {
			t.Errorf("%+v: %v, %v", c, pays, err)
		}
	}
	wide := bookOf(t, "| amount wide: 9999999999 + 9999999999\n", 100)
	if pays, err := Due(wide, nil, 0, "wide", 100, 102, 5, 9); pays != nil || err != api.ErrCoin {
		t.Error(pays, err)
	}
}

func TestP112DueIsMonthsOfDaily(t *testing.T) {
	const last = 90
	r := rand.New(rand.NewSource(112))
	for range 300 {
		b, f := someBook(t, r, last), someFile(t, r, last)
		who, known, way := r.Intn(3), 1+r.Intn(last), r.Intn(6)
		from := 1 + r.Intn(last)
		to := from + r.Intn(last)
		want := ""
		daily, err := dayByDay(b, f, who, "x", from, to, known)
		if err != nil {
			want = err.Error()
		} else {
			want = paysText(Months(daily, from, way))
		}
		if got := paysText(Due(b, f, who, "x", from, to, known, way)); got != want {
			t.Fatalf("%d to %d, as known on %d: %s; want %s", from, to, known, got, want)
		}
	}
}

func TestP112DueByAFunction(t *testing.T) {
	b := bookOf(t, house, 100, act(t, "A", 50, 105, 0, "repeal 9\n"))
	f := fileOf(t, is(1, "here", 1, 103, 107))
	var asked []decide.Case
	decides := func(c decide.Case) (decide.Answer, bool, error) {
		asked = append(asked, c)
		switch {
		case c.On < 100:
			return decide.Answer{}, false, nil
		case c.On == 107:
			return decide.Answer{}, true, api.ErrProof
		}
		return decide.Answer{Amounts: []decide.Amount{{Name: "a", Cents: 1}, {Name: "b", Cents: 31 * c.On}}}, true, nil
	}
	for _, c := range []struct {
		name  string
		to    int
		want  string
		asked []int
	}{
		{"b", 106, "[{98 106 631}]", []int{98, 100, 103, 105}}, {"a", 106, "[{98 106 0}]", []int{98, 100, 103, 105}}, {"c", 101, "[{98 101 0}]", []int{98, 100}},
		{"b", 98, "[]", nil}, {"b", 110, "[] statute: explanation", []int{98, 100, 103, 105, 107}}, {"b", 97, "[] statute: day", nil},
	} {
		asked = nil
		pays, err := DueBy(decides, b, f, 7, c.name, 98, c.to, 60, api.HalfUp)
		got := fmt.Sprint(pays)
		if err != nil {
			got += " " + err.Error()
		}
		if got != c.want {
			t.Errorf("%s up to %d: %s; want %s", c.name, c.to, got, c.want)
		}
		if !slices.EqualFunc(asked, c.asked, func(x decide.Case, on int) bool { return x == decide.Case{Who: 7, On: on, Known: 60} }) {
			t.Errorf("%s up to %d: asked %v", c.name, c.to, asked)
		}
	}
}

func TestP2P4DailyReadsAndAnswersAnew(t *testing.T) {
	b := bookOf(t, house, 100, act(t, "A", 50, 105, 0, "line 0 of law: amount basic: 620\n"))
	f := fileOf(t, is(0, "here", 1, 102, 0))
	const want = "[0 0 31000 31000 31000 62000 62000]"
	for range 2 {
		daily, err := Daily(b, f, 0, "basic", 100, 107, 100)
		if got := dailyText(daily, err); got != want {
			t.Error(got)
		}
		for i := range daily {
			daily[i] = 7
		}
	}
	// What is done to the book and the file between two calls shows.
	if err := b.Pass(act(t, "B", 100, 106, 0, "line 0 of law: amount basic: 1\n")); err != nil {
		t.Fatal(err)
	}
	if err := f.Add(is(0, "here", 0, 103, 104)); err != nil {
		t.Fatal(err)
	}
	if got := dailyText(Daily(b, f, 0, "basic", 100, 107, 100)); got != "[0 0 31000 0 31000 62000 100]" {
		t.Error(got)
	}
	if f.Size() != 2 || len(b.Days(100)) != 3 {
		t.Error("what was handed over was changed")
	}
}
