package facts

import (
	"math"
	"math/rand"
	"reflect"
	"slices"
	"strings"
	"testing"

	"statute/api"
)

// is a fact of somebody.
func is(who int, name string, value, from, to, learnt int) Fact {
	return Fact{Who: who, Name: name, Other: -1, Value: value, From: from, To: to, Learnt: learnt}
}

// stands is a fact of two.
func stands(who int, name string, other, value, from, to, learnt int) Fact {
	return Fact{who, name, other, value, from, to, learnt}
}

func fileOf(t *testing.T, list ...Fact) *File {
	t.Helper()
	f := New()
	for _, x := range list {
		if err := f.Add(x); err != nil {
			t.Fatalf("%+v: %v", x, err)
		}
	}
	return f
}

func TestP70FactsThatCanBeAdded(t *testing.T) {
	list := []Fact{
		is(0, "a", 0, 1, 0, 1),
		is(api.MaxPeople-1, "z9_", api.MaxCoin, api.MaxDay, 0, api.MaxDay),
		is(3, strings.Repeat("q", api.MaxWord), -api.MaxCoin, 1, 2, 1),
		is(3, "if", 1, api.MaxDay-1, api.MaxDay, 1), // a word of the grammar is a word
		stands(0, "child", api.MaxPeople-1, 1, 5, 6, 4),
		stands(1, "child", 0, 0, 5, 0, 900),
		stands(1, "child", 0, 0, 5, 0, 900), // the same again
	}
	f := fileOf(t, list...)
	if f.Size() != len(list) {
		t.Errorf("%d facts", f.Size())
	}
	for i, want := range list {
		if x, ok := f.Fact(i); !ok || x != want {
			t.Errorf("number %d: %+v, %v", i, x, ok)
		}
	}
	for _, k := range []int{-1, len(list), math.MinInt, math.MaxInt} {
		if x, ok := f.Fact(k); ok || x != (Fact{}) {
			t.Errorf("number %d: %+v", k, x)
		}
	}
}

func TestP70FactsThatCannot(t *testing.T) {
	f := New()
	good := is(2, "a", 5, 10, 20, 7)
	check := func(want error, change func(x *Fact)) {
		t.Helper()
		x := good
		change(&x)
		if err := f.Add(x); err != want || f.Size() != 0 {
			t.Errorf("%+v: %v, want %v", x, err, want)
		}
	}
	for _, name := range []string{"", "A", "9", "_a", "a b", "a ", "ä", "a\x00", strings.Repeat("q", api.MaxWord+1)} {
		check(api.ErrName, func(x *Fact) { x.Name = name })
	}
	for _, n := range []int{-1, -2, api.MaxPeople, math.MinInt, math.MaxInt} {
		check(api.ErrKind, func(x *Fact) { x.Who = n })
		if n != -1 {
			check(api.ErrKind, func(x *Fact) { x.Other = n })
		}
	}
	check(api.ErrKind, func(x *Fact) { x.Other = 2 })
	for _, n := range []int{api.MaxCoin + 1, -api.MaxCoin - 1, math.MinInt, math.MaxInt} {
		check(api.ErrCoin, func(x *Fact) { x.Value = n })
	}
	for _, n := range []int{0, -1, api.MaxDay + 1, math.MinInt, math.MaxInt} {
		check(api.ErrDay, func(x *Fact) { x.From = n })
		check(api.ErrDay, func(x *Fact) { x.From, x.To = n, 0 })
		check(api.ErrDay, func(x *Fact) { x.Learnt = n })
	}
	for _, n := range []int{-1, 1, 9, 10, api.MaxDay + 1, math.MinInt, math.MaxInt} {
		check(api.ErrDay, func(x *Fact) { x.To = n })
	}
	// The first that is so is told.
	wrong := []struct {
		want   error
		change func(x *Fact)
	}{
		{api.ErrName, func(x *Fact) { x.Name = "?" }},
		{api.ErrKind, func(x *Fact) { x.Other = -2 }},
		{api.ErrCoin, func(x *Fact) { x.Value = math.MaxInt }},
		{api.ErrDay, func(x *Fact) { x.Learnt = 0 }},
	}
	for i := range wrong {
		check(wrong[i].want, func(x *Fact) {
			for _, w := range wrong[i:] {
				w.change(x)
			}
		})
	}
}

func TestP70NoMoreThanMaxFacts(t *testing.T) {
	f := New()
	for i := range api.MaxFacts {
		if err := f.Add(is(0, "a", i, 1, 0, 1)); err != nil {
			t.Fatalf("number %d: %v", i, err)
		}
	}
	for _, x := range []Fact{is(0, "a", 0, 1, 0, 1), is(-1, "?", math.MaxInt, 0, 0, 0)} {
		if err := f.Add(x); err != api.ErrBound || f.Size() != api.MaxFacts {
			t.Errorf("%+v: %v, %d facts", x, err, f.Size())
		}
	}
	if value, ok := f.Value(0, "a", 1, 1); !ok || value != api.MaxFacts-1 {
		t.Errorf("%d, %v", value, ok)
	}
}

func TestP71ValueOnADayAsKnownOnADay(t *testing.T) {
	f := fileOf(t,
		is(0, "a", 5, 10, 0, 20),
		is(0, "a", 7, 15, 25, 30),
		is(0, "a", 8, 12, 13, 30),
		is(0, "a", 9, 12, 13, 30),
		is(1, "a", 1, 1, 0, 1),
		is(0, "b", 2, 1, 0, 1),
		stands(0, "a", 1, 3, 1, 0, 99), // speaks of something else
		is(0, "c", 0, 1, 0, 1),
		is(0, "d", 1, 1, 0, 50), // was learnt later, but came first
		is(0, "d", 2, 1, 0, 40),
	)
	for _, c := range []struct {
		who       int
		name      string
		on, known int
		value     int
		there     bool
	}{
		{0, "a", 9, 99, 0, false}, {0, "a", 10, 19, 0, false}, {0, "a", 10, 20, 5, true}, {0, "a", 16, 29, 5, true},
		{0, "a", 14, 30, 5, true}, {0, "a", 15, 30, 7, true}, {0, "a", 24, 30, 7, true}, {0, "a", 25, 30, 5, true},
		{0, "a", 12, 29, 5, true}, {0, "a", 12, 30, 9, true}, {0, "a", 13, 30, 5, true}, {0, "a", api.MaxDay, api.MaxDay, 5, true},
		{1, "a", 1, 1, 1, true}, {1, "b", 1, 1, 0, false}, {0, "b", 1, 1, 2, true}, {0, "c", 1, 1, 0, true},
		{0, "d", 1, 39, 0, false}, {0, "d", 1, 40, 2, true}, {0, "d", 1, 50, 1, true},
		// They are only compared.
		{0, "a", math.MaxInt, math.MaxInt, 5, true}, {0, "a", math.MinInt, math.MaxInt, 0, false}, {0, "a", 10, math.MinInt, 0, false},
		{-1, "a", 10, 99, 0, false}, {api.MaxPeople, "a", 10, 99, 0, false}, {math.MinInt, "a", 10, 99, 0, false}, {0, "?", 10, 99, 0, false}, {0, "", 10, 99, 0, false},
	} {
		if value, there := f.Value(c.who, c.name, c.on, c.known); value != c.value || there != c.there {
			t.Errorf("%+v: %d, %v", c, value, there)
		}
	}
}

func TestP71OthersOnADayAsKnownOnADay(t *testing.T) {
	f := fileOf(t,
		stands(0, "child", 2, 1, 10, 0, 5),
		stands(0, "child", 1, -7, 20, 0, 5), // only 0 says no
		stands(0, "child", 2, 0, 30, 0, 6),
		stands(0, "child", 2, 1, 40, 50, 7),
		stands(1, "child", 3, 1, 1, 0, 1),
		stands(0, "mate", 4, 1, 1, 0, 1),
		is(0, "child", 9, 1, 0, 99), // speaks of nobody else
	)
	for _, c := range []struct {
		who       int
		name      string
		on, known int
		want      []int
	}{
		{0, "child", 10, 4, nil}, {0, "child", 9, 5, nil}, {0, "child", 10, 5, []int{2}}, {0, "child", 20, 5, []int{1, 2}},
		{0, "child", 30, 5, []int{1, 2}}, {0, "child", 30, 6, []int{1}}, {0, "child", 40, 6, []int{1}}, {0, "child", 40, 7, []int{1, 2}},
		{0, "child", 49, 7, []int{1, 2}}, {0, "child", 50, 7, []int{1}}, {0, "child", math.MaxInt, math.MaxInt, []int{1}},
		{1, "child", 1, 1, []int{3}}, {0, "mate", 1, 1, []int{4}}, {4, "mate", 1, 1, nil}, {0, "", 1, 1, nil}, {-1, "child", 9, 9, nil}, {math.MinInt, "mate", 1, 1, nil},
	} {
		if got := f.Others(c.who, c.name, c.on, c.known); !slices.Equal(got, c.want) {
			t.Errorf("%+v: %v", c, got)
		}
	}
	all := New()
	for other := api.MaxPeople - 1; other > 0; other-- {
		if err := all.Add(stands(0, "a", other, 1, 1, 0, 1)); err != nil {
			t.Fatal(err)
		}
	}
	if got := all.Others(0, "a", 1, 1); len(got) != api.MaxPeople-1 || !slices.IsSorted(got) || got[0] != 1 {
		t.Errorf("%v", got)
	}
}

func TestP72TurnsAndLearnt(t *testing.T) {
	f := fileOf(t,
		is(0, "a", 5, 10, 0, 20),
		is(0, "b", 7, 15, 25, 30),
		stands(1, "a", 0, 8, 10, 13, 30),
		is(1, "a", 1, 1, 0, 1),
		is(0, "a", 1, 25, 26, 40),
		is(0, "c", 1, 10, 25, 20),
	)
	for _, c := range []struct {
		who, known int
		want       []int
	}{
		{0, 19, nil}, {0, 20, []int{10, 25}}, {0, 30, []int{10, 15, 25}}, {0, 40, []int{10, 15, 25, 26}}, {0, math.MaxInt, []int{10, 15, 25, 26}},
		{1, 0, nil}, {1, 1, []int{1}}, {1, 30, []int{1, 10, 13}}, {2, 99, nil}, {api.MaxPeople, 99, nil}, {math.MaxInt, 99, nil},
		{-1, 0, nil}, {-1, 20, []int{1, 10, 25}}, {-7, 30, []int{1, 10, 13, 15, 25}}, {math.MinInt, 99, []int{1, 10, 13, 15, 25, 26}}, {0, math.MinInt, nil},
	} {
		if got := f.Turns(c.who, c.known); !slices.Equal(got, c.want) {
			t.Errorf("%+v: %v", c, got)
		}
	}
	if got := f.Learnt(); !slices.Equal(got, []int{1, 20, 30, 40}) {
		t.Errorf("%v", got)
	}
	if got := New().Learnt(); len(got) != 0 {
		t.Errorf("%v", got)
	}
}

// someFile is a file of facts that often speak of the same, within a few days.
func someFile(t *testing.T, r *rand.Rand, people, last int) *File {
	t.Helper()
	f := New()
	for range r.Intn(25) {
		x := is(r.Intn(people), []string{"a", "b"}[r.Intn(2)], r.Intn(4), 1+r.Intn(last), 0, 1+r.Intn(last))
		if r.Intn(2) > 0 {
			x.To = x.From + 1 + r.Intn(last)
		}
		if other := r.Intn(people); r.Intn(2) > 0 && other != x.Who {
			x.Other = other
		}
		if err := f.Add(x); err != nil {
			t.Fatal(err)
		}
	}
	return f
}

// last is the fact that counts of those that speak of the same, looked for one by one.
func last(f *File, who int, name string, other, on, known int) (Fact, bool) {
	var found Fact
	there := false
	for learnt := 1; learnt <= known; learnt++ {
		for k := range f.Size() {
			x, _ := f.Fact(k)
			if x.Who == who && x.Name == name && x.Other == other && x.Learnt == learnt && on >= x.From && (x.To == 0 || on < x.To) {
				found, there = x, true
			}
		}
	}
	return found, there
}

func TestP71P72DayByDay(t *testing.T) {
	const people, days = 4, 9
	r := rand.New(rand.NewSource(7))
	for range 150 {
		f := someFile(t, r, people, days)
		for known := range days + 2 {
			for who := range people {
				checkDays(t, f, who, known, people, 2*days+3)
			}
		}
	}
}

// checkDays holds what is told of somebody day by day against what is looked for one by one, and against the turns.
func checkDays(t *testing.T, f *File, who, known, people, end int) {
	t.Helper()
	turns, all := f.Turns(who, known), f.Turns(-1, known)
	for on := range end {
		for _, name := range []string{"a", "b"} {
			value, there := f.Value(who, name, on, known)
			x, is := last(f, who, name, -1, on, known)
			var others []int
			for other := range people {
				if y, is := last(f, who, name, other, on, known); is && y.Value != 0 {
					others = append(others, other)
				}
			}
			got := f.Others(who, name, on, known)
			if value != x.Value || there != is || !slices.Equal(got, others) {
				t.Fatalf("%d %s on %d, known on %d: %d, %v, %v; want %+v, %v", who, name, on, known, value, there, got, x, others)
			}
			ahead, was := f.Value(who, name, on-1, known)
			if (value != ahead || there != was || !slices.Equal(got, f.Others(who, name, on-1, known))) && (!slices.Contains(turns, on) || !slices.Contains(all, on)) {
				t.Fatalf("%d %s becomes another on %d: %v, %v", who, name, on, turns, all)
			}
		}
	}
}

func TestP1FilesThatAreNone(t *testing.T) {
	for _, f := range []*File{nil, {}, New()} {
		if x, ok := f.Fact(0); ok || x != (Fact{}) || f.Size() != 0 {
			t.Errorf("%+v", x)
		}
		if value, ok := f.Value(0, "a", 1, 1); ok || value != 0 {
			t.Errorf("%d", value)
		}
		if len(f.Others(0, "a", 1, 1)) != 0 || len(f.Turns(-1, 1)) != 0 || len(f.Learnt()) != 0 {
			t.Error("there is something")
		}
		if ok, err := f.Holds(named("a"), 0, 1, 1); ok || err != nil {
			t.Errorf("%v, %v", ok, err)
		}
		if n, err := f.Sum(named("a"), 0, 1, 1); n != 0 || err != nil {
			t.Errorf("%d, %v", n, err)
		}
	}
	var f *File
	if err := f.Add(is(0, "a", 1, 1, 0, 1)); err != api.ErrBound {
		t.Errorf("%v", err)
	}
}

func TestP4NothingIsShared(t *testing.T) {
	f := fileOf(t, is(0, "a", 5, 10, 20, 3), stands(0, "a", 1, 1, 10, 0, 3), stands(0, "a", 2, 1, 10, 0, 4))
	all := func() [][]int { return [][]int{f.Others(0, "a", 15, 9), f.Turns(0, 9), f.Turns(-1, 9), f.Learnt()} }
	want := [][]int{{1, 2}, {10, 20}, {10, 20}, {3, 4}}
	for range 2 {
		got := all()
		if !reflect.DeepEqual(got, want) {
			t.Errorf("%v", got)
		}
		for _, list := range got {
			list[0] = 99
		}
	}
}
