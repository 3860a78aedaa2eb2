package force

import (
	"fmt"
	"math"
	"math/rand"
	"reflect"
	"slices"
	"strconv"
	"strings"
	"testing"

	"statute/amend"
	"statute/api"
	"statute/script"
)

const house = "law Of houses\n1 Doors\n  | old\n  a Keys\n    | one key\n2 Roofs\n"

func lawOf(t *testing.T, form string) api.Item {
	t.Helper()
	l, err := script.Read(form)
	if err != nil {
		t.Fatal(err)
	}
	return l
}

func formOf(t *testing.T, l api.Item) string {
	t.Helper()
	form, err := script.Write(l)
	if err != nil {
		t.Fatal(err)
	}
	return form
}

// act of a name, days, and changes as texts.
func act(t *testing.T, name string, made, from, until int, changes string) api.Act {
	t.Helper()
	a, err := amend.ReadAct("act A made 2026-01-01 from 2026-01-01\n" + changes)
	if err != nil {
		t.Fatal(err)
	}
	return api.Act{Name: name, Made: made, From: from, Until: until, Ops: a.Ops}
}

// bookOf the house's law, from day 100 on.
func bookOf(t *testing.T, acts ...api.Act) *Book {
	t.Helper()
	b, err := New(lawOf(t, house), 100)
	if err != nil {
		t.Fatal(err)
	}
	for _, a := range acts {
		if err := b.Pass(a); err != nil {
			t.Fatal(a.Name, err)
		}
	}
	return b
}

// lineAt is the first line of provision 1.
func lineAt(t *testing.T, b *Book, on, known int) string {
	t.Helper()
	l, _, ok := b.At(on, known)
	it, there := script.Find(l, "1")
	if !ok || !there || len(it.Lines) == 0 {
		return "none"
	}
	return it.Lines[0]
}

func TestP50New(t *testing.T) {
	for _, c := range []struct {
		law  api.Item
		day  int
		want error
	}{
		{lawOf(t, house), 1, nil},
		{lawOf(t, house), api.MaxDay, nil},
		{api.Item{}, 100, nil},
		{lawOf(t, house), 0, api.ErrDay},
		{lawOf(t, house), -1, api.ErrDay},
		{lawOf(t, house), api.MaxDay + 1, api.ErrDay},
		{lawOf(t, house), math.MinInt, api.ErrDay},
		{api.Item{Label: "1"}, 100, api.ErrName},
		{api.Item{Head: " x"}, 0, api.ErrText},
		{api.Item{Lines: make([]string, api.MaxLines+1)}, 0, api.ErrBound},
	} {
		b, err := New(c.law, c.day)
		if err != c.want || (b == nil) != (err != nil) {
			t.Errorf("%+v, %d: %v", c.law, c.day, err)
		}
	}
}

func TestP50Pass(t *testing.T) {
	for _, c := range []struct {
		name string
		act  api.Act
		want error
	}{
		{"ordinary", api.Act{Name: "B", Made: 110, From: 110}, nil},
		{"with an end", api.Act{Name: "B", Made: 110, From: 110, Until: 111}, nil},
		{"the last days", api.Act{Name: "B", Made: api.MaxDay, From: api.MaxDay}, nil},
		{"a long name", api.Act{Name: strings.Repeat("b", api.MaxWord), Made: 110, From: 110}, nil},
		{"the same name but for a letter's size", api.Act{Name: "a", Made: 110, From: 110}, nil},
		{"as many changes as can be", api.Act{Name: "B", Made: 110, From: 110, Ops: make([]api.Op, api.MaxOps)}, nil},
		{"no name", api.Act{Made: 110, From: 110}, api.ErrName},
		{"a name that begins with a digit", api.Act{Name: "7A", Made: 110, From: 110}, api.ErrName},
		{"a name with a blank", api.Act{Name: "A B", Made: 110, From: 110}, api.ErrName},
		{"too long a name", api.Act{Name: strings.Repeat("b", api.MaxWord+1), Made: 110, From: 110}, api.ErrName},
		{"the name of another act", api.Act{Name: "A", Made: 110, From: 110}, api.ErrName},
		{"made on no day", api.Act{Name: "B", Made: 0, From: 110}, api.ErrDay},
		{"from no day", api.Act{Name: "B", Made: 110, From: api.MaxDay + 1}, api.ErrDay},
		{"until no day", api.Act{Name: "B", Made: 110, From: 110, Until: api.MaxDay + 1}, api.ErrDay},
		{"until ahead of all days", api.Act{Name: "B", Made: 110, From: 110, Until: -1}, api.ErrDay},
		{"made behind from", api.Act{Name: "B", Made: 111, From: 110}, api.ErrDay},
		{"until its first day", api.Act{Name: "B", Made: 110, From: 110, Until: 110}, api.ErrDay},
		{"made ahead of the last act", api.Act{Name: "B", Made: 109, From: 110}, api.ErrDay},
		{"too many changes", api.Act{Name: "B", Made: 110, From: 110, Ops: make([]api.Op, api.MaxOps+1)}, api.ErrBound},
		{"the name first", api.Act{Name: "A", Made: 109, From: 108, Ops: make([]api.Op, api.MaxOps+1)}, api.ErrName},
		{"then the days", api.Act{Name: "B", Made: 109, From: 110, Ops: make([]api.Op, api.MaxOps+1)}, api.ErrDay},
	} {
		b := bookOf(t, api.Act{Name: "A", Made: 110, From: 150})
		if err := b.Pass(c.act); err != c.want {
			t.Errorf("%s: %v", c.name, err)
		}
		want := 1
		if c.want == nil {
			want = 2
		}
		if len(b.acts) != want {
			t.Errorf("%s: there are %d acts", c.name, len(b.acts))
		}
	}
}

func TestP50AnActThatWasNotPassedLeavesNothing(t *testing.T) {
	b := bookOf(t, api.Act{Name: "A", Made: 110, From: 110})
	if err := b.Pass(api.Act{Name: "B", Made: 120, From: 119}); err != api.ErrDay {
		t.Fatal(err)
	}
	if err := b.Pass(api.Act{Name: "B", Made: 111, From: 111}); err != nil {
		t.Error(err)
	}
}

func TestP50TooManyActs(t *testing.T) {
	b := bookOf(t)
	for i := range api.MaxActs {
		if err := b.Pass(api.Act{Name: "A" + strconv.Itoa(i), Made: 110, From: 110}); err != nil {
			t.Fatal(i, err)
		}
	}
	for _, c := range []struct {
		act  api.Act
		want error
	}{
		{api.Act{Name: "B", Made: 110, From: 110}, api.ErrBound},
		{api.Act{Name: "A1", Made: 110, From: 110}, api.ErrName},
		{api.Act{Name: "B", Made: 109, From: 110}, api.ErrDay},
	} {
		if err := b.Pass(c.act); err != c.want {
			t.Errorf("%v: %v", c.act, err)
		}
	}
}

func TestP51WhatWasKnownAndWhatIsInForce(t *testing.T) {
	b := bookOf(t,
		act(t, "A", 50, 90, 0, "line 0 of 1: a\n"),
		act(t, "B", 110, 150, 0, "line 0 of 1: b\n"),
		act(t, "C", 120, 130, 170, "line 0 of 1: c\n"),
		act(t, "D", 120, 130, 160, "words of 1: \"c\" becomes \"cd\"\n"),
	)
	for _, c := range []struct {
		on, known int
		want      string
	}{
		{100, 49, "old"}, {100, 50, "a"}, {129, 120, "a"}, {130, 119, "a"}, {130, 120, "cd"}, {149, 200, "cd"},
		{150, 200, "b"}, {150, 119, "b"}, {150, 109, "a"}, {159, 120, "b"}, {160, 120, "b"}, {170, 120, "b"},
		{api.MaxDay, api.MaxDay, "b"}, {api.MaxDay, 1, "old"}, {100, api.MaxDay, "a"},
	} {
		if got := lineAt(t, b, c.on, c.known); got != c.want {
			t.Errorf("on %d, known on %d: %s, want %s", c.on, c.known, got, c.want)
		}
	}
	for _, c := range [][2]int{{99, 200}, {0, 200}, {-5, 200}, {api.MaxDay + 1, 200}, {100, 0}, {100, -1}, {100, api.MaxDay + 1}, {math.MinInt, math.MaxInt}} {
		if l, notes, ok := b.At(c[0], c[1]); ok || notes != nil || !reflect.DeepEqual(l, api.Item{}) {
			t.Errorf("%v: %v, %v, %v", c, l, notes, ok)
		}
	}
}

func TestP51UntilIsTheFirstDayWithout(t *testing.T) {
	b := bookOf(t, act(t, "A", 100, 110, 120, "line 0 of 1: a\n"), act(t, "B", 100, 120, 0, "line 0 of 1: b\n"))
	for on, want := range map[int]string{109: "old", 110: "a", 119: "a", 120: "b", 121: "b"} {
		if got := lineAt(t, b, on, 100); got != want {
			t.Errorf("on %d: %s", on, got)
		}
	}
}

func TestP51Order(t *testing.T) {
	// By From, not as they were passed; of one From as they were passed.
	b := bookOf(t,
		act(t, "Z", 100, 130, 0, "line 0 of 1: z\n"),
		act(t, "Y", 100, 120, 0, "line 0 of 1: y\n"),
		act(t, "X", 101, 120, 0, "line 0 of 1: x\n"),
		act(t, "A", 102, 130, 0, "line 0 of 1: a\n"),
	)
	for on, want := range map[int]string{119: "old", 120: "x", 129: "x", 130: "a"} {
		if got := lineAt(t, b, on, 200); got != want {
			t.Errorf("on %d: %s", on, got)
		}
	}
	if got := lineAt(t, b, 130, 101); got != "z" {
		t.Error(got)
	}
}

func TestP51Notes(t *testing.T) {
	b := bookOf(t,
		act(t, "A", 100, 140, 0, "head 2: Tiles\nrepeal 9\n"),
		act(t, "B", 100, 130, 0, "repeal 1\n"),
		act(t, "C", 100, 150, 0, "line 0 of 1: c\n"),
		act(t, "D", 100, 140, 0, "head 2: Slates\n"),
		act(t, "E", 100, 160, 0, "put in law:\n  2\n"),
		act(t, "F", 100, 160, 0, "words of 2: \"x\" becomes \"y\"\n"),
		api.Act{Name: "G", Made: 100, From: 160, Ops: []api.Op{{Kind: api.OHead}, {Kind: 99}}},
	)
	l, notes, ok := b.At(160, 100)
	want := []Note{{"A", 1, api.ErrPath}, {"C", 0, api.ErrPath}, {"E", 0, api.ErrName}, {"F", 0, api.ErrWords}, {"G", 1, api.ErrKind}}
	if !ok || !slices.Equal(notes, want) {
		t.Errorf("%v, want %v", notes, want)
	}
	// Of an act that can't be done nothing is done: neither A's nor G's first change.
	if formOf(t, l) != "law Of houses\n2 Slates\n" {
		t.Error(formOf(t, l))
	}
	if _, notes, ok = b.At(129, 100); !ok || notes != nil {
		t.Error(notes)
	}
}

func TestP51WhatFailsOnOneDayHoldsOnAnother(t *testing.T) {
	b := bookOf(t,
		act(t, "A", 100, 110, 120, "repeal 1\n"),
		act(t, "B", 100, 115, 0, "line 0 of 1: b\n"),
	)
	for on, want := range map[int]int{114: 0, 115: 1, 119: 1, 120: 0} {
		if _, notes, _ := b.At(on, 100); len(notes) != want {
			t.Errorf("on %d: %v", on, notes)
		}
	}
	if got := lineAt(t, b, 120, 100); got != "b" {
		t.Error(got)
	}
}

func TestP52Days(t *testing.T) {
	b := bookOf(t,
		api.Act{Name: "A", Made: 50, From: 60, Until: 70},
		api.Act{Name: "B", Made: 50, From: 90, Until: 130},
		api.Act{Name: "C", Made: 110, From: 150},
		api.Act{Name: "D", Made: 110, From: 120, Until: 150},
		api.Act{Name: "E", Made: 111, From: 120, Until: 130},
		api.Act{Name: "F", Made: 112, From: 112, Until: 200},
		act(t, "G", 113, 300, 0, "repeal 9\n"),
	)
	for _, c := range []struct {
		known int
		want  []int
	}{
		{1, []int{100}},
		{49, []int{100}},
		{50, []int{100, 130}},
		{110, []int{100, 120, 130, 150}},
		{111, []int{100, 120, 130, 150}},
		{112, []int{100, 112, 120, 130, 150, 200}},
		{api.MaxDay, []int{100, 112, 120, 130, 150, 200, 300}},
		{0, nil},
		{-1, nil},
		{api.MaxDay + 1, nil},
	} {
		if got := b.Days(c.known); !slices.Equal(got, c.want) || (got == nil) != (c.want == nil) {
			t.Errorf("known on %d: %v", c.known, got)
		}
	}
	// What begins or ends on the first law's day begins no other day.
	b = bookOf(t, api.Act{Name: "A", Made: 90, From: 90, Until: 100}, api.Act{Name: "B", Made: 90, From: 100, Until: 101})
	if got := b.Days(90); !slices.Equal(got, []int{100, 101}) {
		t.Error(got)
	}
}

// told is a list of spans, in short.
func told(spans []Span) string {
	var list []string
	for _, s := range spans {
		list = append(list, fmt.Sprintf("%d-%d %v %s%s%v%d", s.From, s.To, s.There, s.Item.Label, s.Item.Head, s.Item.Lines, len(s.Item.Kids)))
	}
	return strings.Join(list, "; ")
}

func TestP53Past(t *testing.T) {
	b := bookOf(t,
		act(t, "A", 100, 110, 0, "line 0 of 1: a\n"),
		act(t, "B", 100, 120, 140, "repeal 1\n"),
		act(t, "C", 100, 130, 0, "head 2: Tiles\n"),
		act(t, "D", 105, 150, 0, "head 1/a: Locks\n"),
		act(t, "E", 105, 160, 170, "words of 1: \"a\" becomes \"a\"\n"),
	)
	for _, c := range []struct {
		path  string
		known int
		want  string
	}{
		{"1", 99, "100-0 true 1Doors[old]1"},
		{"1", 100, "100-110 true 1Doors[old]1; 110-120 true 1Doors[a]1; 120-140 false []0; 140-0 true 1Doors[a]1"},
		{"2", 100, "100-130 true 2Roofs[]0; 130-0 true 2Tiles[]0"},
		{"9", 200, "100-0 false []0"},
		{"1/", 200, "100-0 false []0"},
		{"1/a", 100, "100-120 true aKeys[one key]0; 120-140 false []0; 140-0 true aKeys[one key]0"},
		{"1/a", 105, "100-120 true aKeys[one key]0; 120-140 false []0; 140-150 true aKeys[one key]0; 150-0 true aLocks[one key]0"},
		// What lies in it counts.
		{"1", 105, "100-110 true 1Doors[old]1; 110-120 true 1Doors[a]1; 120-140 false []0; 140-150 true 1Doors[a]1; 150-0 true 1Doors[a]1"},
		{"", 100, "100-110 true Of houses[]2; 110-120 true Of houses[]2; 120-130 true Of houses[]1; 130-140 true Of houses[]1; 140-0 true Of houses[]2"},
	} {
		spans, ok := b.Past(c.path, c.known)
		if got := told(spans); !ok || got != c.want {
			t.Errorf("%q, known on %d:\n%s, want\n%s", c.path, c.known, got, c.want)
		}
	}
	for _, known := range []int{0, -1, api.MaxDay + 1} {
		if spans, ok := b.Past("1", known); ok || spans != nil {
			t.Errorf("known on %d: %v", known, spans)
		}
	}
}

func TestP54Learnt(t *testing.T) {
	b := bookOf(t,
		act(t, "A", 1, 120, 0, "line 0 of 1: a\n"),
		act(t, "B", 110, 130, 0, "line 0 of 1: b\n"),
		act(t, "C", 111, 125, 0, "line 0 of 1: c\n"),
		act(t, "D", 112, 112, 0, "repeal 9\n"),
		act(t, "E", 113, 140, 0, "head 2: Tiles\n"),
		act(t, "F", 113, 140, 0, "head 2: Roofs\n"),
		act(t, "G", 150, 200, 210, "head 2: Slates\n"),
	)
	for _, c := range []struct {
		on   int
		want []int
	}{
		{119, nil},
		// What was known from the first day on was never another one.
		{120, nil},
		{125, []int{111}},
		// C was made behind B, but B is in force from a later day on, and so comes behind it.
		{130, []int{110}},
		{140, []int{110}},
		{200, []int{110, 150}},
		{210, []int{110}},
		{api.MaxDay, []int{110}},
		{99, nil}, {0, nil}, {-1, nil}, {api.MaxDay + 1, nil},
	} {
		if got := b.Learnt(c.on); !slices.Equal(got, c.want) || (got == nil) != (c.want == nil) {
			t.Errorf("on %d: %v, want %v", c.on, got, c.want)
		}
	}
}

// someBook is a book with acts that often stand in each other's way, within a few days.
func someBook(t *testing.T, r *rand.Rand, last int) *Book {
	t.Helper()
	changes := []string{
		"line 0 of 1: x\n", "line 0 of 1: y\n", "repeal 1\n", "head 2: Tiles\n", "put in law behind 2:\n  3\n    | x\n",
		"repeal 3\n", "move 1/a to 2\n", "label 2: 4\n", "label 4: 2\n", "add 0 of 1/a: two keys\n", "words of 1: \"x\" becomes \"y\"\n", "repeal 2/a\n", "",
	}
	b, err := New(lawOf(t, house), 1+r.Intn(last/2))
	if err != nil {
		t.Fatal(err)
	}
	made := 1
	for i := range r.Intn(8) {
		made += r.Intn(3)
		from, until := made+r.Intn(last/2), 0
		if r.Intn(2) > 0 {
			until = from + 1 + r.Intn(last/3)
		}
		text := changes[r.Intn(len(changes))] + changes[r.Intn(len(changes))]
		if err := b.Pass(act(t, "A"+strconv.Itoa(i), made, from, until, text)); err != nil {
			t.Fatal(err)
		}
	}
	return b
}

func TestP52P53P54DayByDay(t *testing.T) {
	const last = 24
	r := rand.New(rand.NewSource(5))
	for range 40 {
		b := someBook(t, r, last)
		at := func(on, known int) (api.Item, bool) {
			l, _, ok := b.At(on, known)
			return l, ok
		}
		for known := range last {
			days := b.Days(known)
			for on := b.day + 1; on < 2*last; on++ {
				ahead, _ := at(on-1, known)
				l, ok := at(on, known)
				if ok && !same(ahead, l) && !slices.Contains(days, on) {
					t.Fatalf("another law on %d, as known on %d: %v", on, known, days)
				}
			}
			for _, path := range []string{"", "1", "1/a", "2", "2/a", "3", "4"} {
				checkPast(t, b, path, known, 2*last)
			}
		}
		for on := range 2 * last {
			var want []int
			for known := 2; known < 2*last && on >= b.day; known++ {
				ahead, _ := at(on, known-1)
				if l, _ := at(on, known); !same(ahead, l) {
					want = append(want, known)
				}
			}
			if got := b.Learnt(on); !slices.Equal(got, want) {
				t.Fatalf("on %d: %v, want %v", on, got, want)
			}
		}
	}
}

// checkPast holds the spans of a path against what stood there day by day.
func checkPast(t *testing.T, b *Book, path string, known, last int) {
	t.Helper()
	spans, ok := b.Past(path, known)
	if ok != (known > 0) {
		t.Fatalf("known on %d: %v", known, ok)
	}
	for i, s := range spans {
		end := s.To
		if i == len(spans)-1 {
			end = last
		} else if s.To != spans[i+1].From || s.There == spans[i+1].There && same(s.Item, spans[i+1].Item) {
			t.Fatalf("%q: %v", path, spans)
		}
		if i == 0 && s.From != b.day || i == len(spans)-1 && s.To != 0 {
			t.Fatalf("%q: %v", path, spans)
		}
		for on := s.From; on < end; on++ {
			l, _, _ := b.At(on, known)
			if it, there := script.Find(l, path); there != s.There || !same(it, s.Item) {
				t.Fatalf("%q on %d, as known on %d: %v; %v", path, on, known, it, spans)
			}
		}
	}
}

func TestP51AViewOfManyDays(t *testing.T) {
	const last = 24
	r := rand.New(rand.NewSource(51))
	for range 100 {
		b := someBook(t, r, last)
		for known := range last {
			v := b.View(known)
			for range 2 * last {
				on := r.Intn(2 * last)
				c := b.course()
				want, wantNotes, wantOK := api.Item{}, []Note(nil), on >= b.day && known > 0
				if wantOK {
					c.follow(b.actsAt(on, known))
					want, wantNotes = c.law(), c.notes()
				}
				l, notes, ok := v.At(on)
				if ok != wantOK || !same(l, want) || !slices.Equal(notes, wantNotes) {
					t.Fatalf("on %d, as known on %d: %v, %v, %v; want %v, %v, %v", on, known, l, notes, ok, want, wantNotes, wantOK)
				}
				blot(l)
			}
		}
	}
	for _, on := range []int{0, -1, api.MaxDay + 1, math.MinInt, math.MaxInt} {
		if l, notes, ok := bookOf(t).View(100).At(on); ok || notes != nil || !same(l, api.Item{}) {
			t.Errorf("on %d: %v", on, l)
		}
		if l, notes, ok := bookOf(t).View(on).At(100); ok || notes != nil || !same(l, api.Item{}) {
			t.Errorf("as known on %d: %v", on, l)
		}
	}
	if _, _, ok := (*Book)(nil).View(1).At(1); ok {
		t.Error("there is a law")
	}
}

func TestP1BooksThatAreNone(t *testing.T) {
	for _, b := range []*Book{nil, {}} {
		if l, notes, ok := b.At(1, 1); b == nil && (ok || notes != nil || len(l.Kids) > 0) {
			t.Error("there is a law")
		}
		if days := b.Days(1); b == nil && days != nil {
			t.Error(days)
		}
		if spans, ok := b.Past("1", 1); b == nil && (ok || spans != nil) {
			t.Error(spans)
		}
		if days := b.Learnt(1); days != nil {
			t.Error(days)
		}
		for _, c := range []struct {
			act  api.Act
			want error
		}{{api.Act{}, api.ErrName}, {api.Act{Name: "A"}, api.ErrDay}, {api.Act{Name: "A", Made: 1, From: 1}, api.ErrBound}} {
			if err := b.Pass(c.act); b == nil && err != c.want {
				t.Errorf("%v: %v", c.act, err)
			}
		}
	}
}

// oddItems are provisions of which nobody knows whether they are right.
func oddItems() map[string]api.Item {
	endless := api.Item{Label: "3", Kids: []api.Item{{Label: "a"}, {Label: "b"}}}
	endless.Kids[1].Kids = endless.Kids
	wide := api.Item{Label: "3", Kids: make([]api.Item, 10)}
	for i := range wide.Kids {
		wide.Kids[i] = api.Item{Label: strconv.Itoa(i + 1), Kids: wide.Kids}
	}
	double := api.Item{Label: "a"}
	for range 60 {
		other := double
		other.Label = "b"
		double = api.Item{Label: "a", Kids: []api.Item{double, other}}
	}
	double.Label = "3"
	chain := func(deep int, last api.Item) api.Item {
		for range deep {
			last = api.Item{Label: "3", Kids: []api.Item{last}}
		}
		return last
	}
	list := map[string]api.Item{
		"right":             {Label: "3", Lines: []string{"x"}, Kids: []api.Item{{Label: "a"}}},
		"no label":          {},
		"without an end":    endless,
		"ever wider":        wide,
		"doubled":           double,
		"deep":              chain(api.MaxDeep-1, api.Item{Label: "3"}),
		"too deep":          chain(api.MaxDeep, api.Item{Label: "3"}),
		"too deep, wrong":   chain(api.MaxDeep, api.Item{Label: "?", Head: " "}),
		"deep, wrong":       chain(api.MaxDeep-1, api.Item{Label: "?"}),
		"too many lines":    {Label: "3", Lines: make([]string, api.MaxLines+1)},
		"too long":          {Label: "3", Head: strings.Repeat("x", api.MaxLine+1)},
		"wrong at its end":  {Label: "3", Kids: []api.Item{{Label: "a"}, {Label: "a"}}},
		"wrong line inside": {Label: "3", Kids: []api.Item{{Label: "a", Lines: []string{"x "}}}},
	}
	for _, count := range []int{api.MaxItems - 4, api.MaxItems - 3, api.MaxItems, 2 * api.MaxItems} {
		many := api.Item{Label: "3"}
		for i := range count {
			many.Kids = append(many.Kids, api.Item{Label: strconv.Itoa(i + 1)})
		}
		list["many "+strconv.Itoa(count)] = many
		wrong := script.Copy(many)
		wrong.Kids[count-1].Head = " "
		list["many, wrong "+strconv.Itoa(count)] = wrong
	}
	return list
}

func TestP51WhatIsPutIsNotedAsApplyTellsIt(t *testing.T) {
	for name, it := range oddItems() {
		for _, path := range []string{"", "1/a"} {
			ops := []api.Op{{Kind: api.OPut, Path: path, Item: it}}
			want, err := amend.Apply(lawOf(t, house), ops)
			b := bookOf(t, api.Act{Name: "A", Made: 100, From: 100, Ops: ops})
			l, notes, _ := b.At(100, 100)
			if err == nil {
				if notes != nil || !same(l, want) {
					t.Errorf("%s in %q: %v", name, path, notes)
				}
				continue
			}
			fault, ok := err.(*api.Fault)
			if !ok || !slices.Equal(notes, []Note{{"A", 0, fault.Err}}) || formOf(t, l) != house {
				t.Errorf("%s in %q: %v, want %v", name, path, notes, err)
			}
		}
	}
}

// blot writes into all lists of an item.
func blot(it api.Item) {
	for i := range it.Lines {
		it.Lines[i] = "blot"
	}
	for i := range it.Kids {
		blot(it.Kids[i])
		it.Kids[i].Head = "blot"
	}
}

func TestP4NothingIsShared(t *testing.T) {
	l := lawOf(t, house)
	b, err := New(l, 100)
	if err != nil {
		t.Fatal(err)
	}
	a := act(t, "A", 100, 110, 0, "put in law behind 2:\n  3 Walls\n    | thick\n    a\n")
	ops := slices.Clone(a.Ops)
	if err := b.Pass(a); err != nil {
		t.Fatal(err)
	}
	if formOf(t, l) != house || !reflect.DeepEqual(a.Ops, ops) {
		t.Error("what was handed over was changed")
	}
	blot(l)
	blot(a.Ops[0].Item)
	a.Ops[0].Path = "9"
	const want = house + "3 Walls\n  | thick\n  a\n"
	for range 2 {
		for on, form := range map[int]string{100: house, 110: want} {
			law, _, _ := b.At(on, 100)
			if formOf(t, law) != form {
				t.Errorf("on %d: %s", on, formOf(t, law))
			}
			blot(law)
		}
		for _, path := range []string{"", "3", "1"} {
			spans, _ := b.Past(path, 100)
			for i, s := range spans {
				blot(s.Item)
				for _, other := range spans[i+1:] {
					if strings.Contains(fmt.Sprint(other), "blot") {
						t.Error("two spans share something")
					}
				}
			}
		}
		days := b.Days(100)
		if !slices.Equal(days, []int{100, 110}) {
			t.Error(days)
		}
		days[0] = 7
		if learnt := b.Learnt(110); !slices.Equal(learnt, []int{100}) {
			t.Error(learnt)
		} else {
			learnt[0] = 7
		}
	}
	_, notes, _ := b.At(110, 100)
	if notes != nil {
		t.Error(notes)
	}
}
