package facts

import (
	"errors"
	"math"
	"math/rand"
	"reflect"
	"slices"
	"testing"

	"statute/api"
	"statute/coin"
	"statute/terms"
)

func node(kind string, kids ...terms.Node) terms.Node { return terms.Node{Kind: kind, Kids: kids} }
func named(word string) terms.Node                    { return terms.Node{Kind: "name", Word: word} }
func number(n int) terms.Node                         { return terms.Node{Kind: "number", N: n} }

// wordy is a node with a word.
func wordy(kind, word string, kids ...terms.Node) terms.Node {
	return terms.Node{Kind: kind, Word: word, Kids: kids}
}

// rated is a node with a rate.
func rated(n int, kid terms.Node) terms.Node {
	return terms.Node{Kind: "*", N: n, Kids: []terms.Node{kid}}
}

// condition of a text.
func condition(t *testing.T, text string) terms.Node {
	t.Helper()
	s, _, err := terms.Read("define q: " + text)
	if err != nil {
		t.Fatalf("%s: %v", text, err)
	}
	return s.If
}

// sumOf a text.
func sumOf(t *testing.T, text string) terms.Node {
	t.Helper()
	s, _, err := terms.Read("amount q: " + text)
	if err != nil {
		t.Fatalf("%s: %v", text, err)
	}
	return s.Sum
}

// family: 0 has the kids 1 and 2, and the mate 3; 1 has the kid 4.
func family(t *testing.T) *File {
	t.Helper()
	return fileOf(t,
		is(0, "age", 4000, 1, 0, 1), is(1, "age", 1800, 1, 0, 1), is(2, "age", 700, 1, 0, 1), is(4, "age", 50, 1, 0, 1),
		is(0, "here", 100, 1, 0, 1), is(1, "here", -1, 1, 0, 1), is(2, "here", 0, 1, 0, 1),
		is(0, "debt", -2550, 1, 0, 1), is(0, "sick", 100, 5, 8, 6),
		stands(0, "child", 2, 1, 1, 0, 1), stands(0, "child", 1, 1, 1, 0, 1), stands(0, "mate", 3, 1, 1, 0, 1), stands(1, "child", 4, 1, 1, 0, 1),
		stands(0, "child", 4, 0, 1, 0, 1),
	)
}

func TestP73Holds(t *testing.T) {
	f := family(t)
	for text, want := range map[string]bool{
		"here": true, "sick": false, "none": false, "child": false,
		"not here": false, "not none": true, "not not here": true,
		"here and age": true, "here and none": false, "none and here": false, "none and none": false,
		"here or none": true, "none or here": true, "none or none": false, "here or here": true,
		"age < 40": false, "age < 40.01": true, "age <= 40": true, "age <= 39.99": false, "age = 40": true, "age = 41": false,
		"age <> 40": false, "age <> 41": true, "age >= 40": true, "age >= 40.01": false, "age > 40": false, "age > 39.99": true,
		"debt < 0": true, "none = 0": true, "none < 0": false, "debt = none - 25.50": true,
		"some child (here)": true, "every child (here)": false, "some child (none)": false, "every child (age)": true, "every child (age < 18)": false,
		"some mate (age)": false, "every mate (not age)": true, "some friend (here)": false, "every friend (none)": true,
		"some child (some child (age < 1))": true, "every child (some child (age < 1))": false, "every child (every child (age < 1))": true, "some child (every child (none))": true,
		"some child (age = 7) and some child (age = 18) and not some child (age = 0.50)": true,
		"count child = 2": true, "some child (count child = 1)": true, "count none = 0": true,
		"total age of child = 25": true, "total here of child = 0 - 0.01": true, "total age of none = 0": true, "total none of child = 0": true, "every child (total age of child <= 0.50)": true,
		"if_only or here": true,
	} {
		if got, err := f.Holds(condition(t, text), 0, 10, 10); got != want || err != nil {
			t.Errorf("%s: %v, %v", text, got, err)
		}
	}
	// On a day, as known on a day.
	for _, c := range [][3]int{{5, 5, 0}, {5, 6, 1}, {4, 6, 0}, {7, 6, 1}, {8, 6, 0}} {
		if got, err := f.Holds(named("sick"), 0, c[0], c[1]); got != (c[2] > 0) || err != nil {
			t.Errorf("%v: %v, %v", c, got, err)
		}
	}
}

func TestP73Sum(t *testing.T) {
	f := family(t)
	for text, want := range map[string]int{
		"5": 500, "0": 0, "7.25": 725, "10000000000": api.MaxCoin, "age": 4000, "debt": -2550, "none": 0, "child": 0,
		"age + 1": 4100, "age - 50": -1000, "age + debt - 1": 1350, "5 - [3 - 1]": 300,
		"count child": 200, "count mate": 100, "count none": 0, "total age of child": 2500, "total none of child": 0, "total age of mate": 0,
		"age * 50%": 2000, "0.05 * 50%": 3, "0.05 * 49.99%": 2, "debt * 1%": -26, "debt * 0%": 0, "age * 10000%": 400000, "0.03 * 50% * 50%": 1,
		"max(age, 50)": 5000, "max(50, age)": 5000, "max(1, 1)": 100, "min(age, 50)": 4000, "min(50, age)": 4000, "min(debt, none)": -2550,
		"max(age, 2) - min(1, 2) * 50% + count child": 4150,
	} {
		if got, err := f.Sum(sumOf(t, text), 0, 10, 10); got != want || err != nil {
			t.Errorf("%s: %d, %v; want %d", text, got, err, want)
		}
	}
}

func TestP73SumsThatAreTooGreat(t *testing.T) {
	f := fileOf(t, is(0, "most", api.MaxCoin, 1, 0, 1), is(0, "least", -api.MaxCoin, 1, 0, 1),
		is(1, "a", api.MaxCoin, 1, 0, 1), is(2, "a", 1, 1, 0, 1), is(3, "a", -1, 1, 0, 1), is(1, "b", -api.MaxCoin, 1, 0, 1), is(2, "b", -1, 1, 0, 1),
		stands(0, "two", 1, 1, 1, 0, 1), stands(0, "two", 2, 1, 1, 0, 1),
		stands(0, "all", 1, 1, 1, 0, 1), stands(0, "all", 2, 1, 1, 0, 1), stands(0, "all", 3, 1, 1, 0, 1))
	for text, want := range map[string]int{
		"most + least": 0, "most - 0": api.MaxCoin, "most * 100%": api.MaxCoin, "least * 100%": -api.MaxCoin, "least - 0": -api.MaxCoin, "max(most, least)": api.MaxCoin,
		"total a of all": api.MaxCoin, // all together
	} {
		if got, err := f.Sum(sumOf(t, text), 0, 1, 1); got != want || err != nil {
			t.Errorf("%s: %d, %v; want %d", text, got, err, want)
		}
	}
	for _, text := range []string{
		"most + 0.01", "0.01 + most", "least - 0.01", "0 - 0.01 + least", "most - least", "least - most", "most * 100.01%", "least * 10000%", "total a of two", "total b of two",
		"most + 1 - 1", "min(0, most + most)", "max(least - 1, 0)", "[most + most] * 0%", "0 - total a of two",
	} {
		if got, err := f.Sum(sumOf(t, text), 0, 1, 1); got != 0 || err != api.ErrCoin {
			t.Errorf("%s: %d, %v", text, got, err)
		}
		if got, err := f.Holds(node("=", number(0), sumOf(t, text)), 0, 1, 1); got || err != api.ErrCoin {
			t.Errorf("%s: %v, %v", text, got, err)
		}
	}
}

// wrongConditions are conditions of which one node is wrong.
func wrongConditions() []terms.Node {
	a, one := named("a"), number(100)
	return []terms.Node{
		{}, node("?"), node("OR", a, a), node("if", a), node("define"), node("["), node("%"),
		node("or"), node("or", a), node("or", a, a, a), node("and"), node("and", a), node("and", a, a, a),
		node("not"), node("not", a, a), wordy("some", "child"), wordy("some", "child", a, a), wordy("every", "child"), wordy("every", "child", a, a),
		node("<"), node("<=", one), node("=", one, one, one), node("<>"), node(">=", one), node(">", one, one, one),
		wordy("name", "a", a), named(""), named("A"), named("a b"), named("1"), named("abcdefghijklmnopqrstuvwxy"),
		wordy("some", "", a), wordy("some", "C", a), wordy("every", "", a), wordy("every", "9", a),
		// Sums are no conditions, conditions no sums.
		one, wordy("count", "child"), wordy("total", "a", named("child")), node("+", one, one), node("-", one, one), rated(1, one), node("max", one, one), node("min", one, one),
		node("<", node("<", one, one), one), node("<", one, node("or", a, a)), node("=", node("not", a), one), node("=", wordy("some", "child", a), one),
	}
}

// wrongSums are sums of which one node is wrong.
func wrongSums() []terms.Node {
	one := number(100)
	return []terms.Node{
		{}, node("?"), node("name"), wordy("number", "a", one), number(-1), number(api.MaxCoin + 1), number(math.MinInt), number(math.MaxInt),
		wordy("name", "a", one), named(""), named("A"), wordy("count", ""), wordy("count", "Child"), wordy("count", "child", one),
		wordy("total", "a"), wordy("total", "a", named("child"), named("child")), wordy("total", "", named("child")), wordy("total", "A", named("child")),
		wordy("total", "a", one), wordy("total", "a", wordy("count", "child")), wordy("total", "a", terms.Node{}), wordy("total", "a", named("")), wordy("total", "a", named("A")), wordy("total", "a", wordy("name", "child", one)),
		node("+"), node("+", one), node("+", one, one, one), node("-", one), node("max", one), node("max", one, one, one), node("min"), node("min", one, one, one),
		node("*"), {Kind: "*", N: 1, Kids: []terms.Node{one, one}}, rated(-1, one), rated(api.MaxRate+1, one), rated(math.MinInt, one), rated(math.MaxInt, number(0)),
	}
}

func TestP73NodesThatAreNone(t *testing.T) {
	f := family(t)
	a, one := named("a"), number(100)
	check := func(n terms.Node) {
		t.Helper()
		if got, err := f.Holds(n, 0, 10, 10); got || err != api.ErrKind {
			t.Errorf("%+v: %v, %v", n, got, err)
		}
	}
	for _, wrong := range wrongConditions() {
		for _, n := range []terms.Node{
			wrong, node("not", wrong), node("or", wrong, a), node("or", named("here"), wrong), node("and", wrong, a), node("and", a, wrong),
			wordy("some", "child", wrong), wordy("every", "child", wrong), wordy("some", "child", wordy("every", "child", wrong)),
		} {
			check(n)
		}
		// What nobody is asked for is not looked at.
		if got, err := f.Holds(wordy("every", "friend", wrong), 0, 10, 10); !got || err != nil {
			t.Errorf("%+v: %v, %v", wrong, got, err)
		}
	}
	for _, wrong := range wrongSums() {
		for _, n := range []terms.Node{wrong, node("+", wrong, one), node("+", one, wrong), node("-", wrong, one), rated(0, wrong), node("max", wrong, one), node("min", one, wrong), wordy("total", "a", wrong)} {
			if got, err := f.Sum(n, 0, 10, 10); got != 0 || err != api.ErrKind {
				t.Errorf("%+v: %d, %v", n, got, err)
			}
			check(node("<", n, one))
			check(node(">=", one, n))
			check(wordy("every", "child", node("=", one, n)))
		}
	}
	for _, n := range []terms.Node{
		node("or", a, a), node("and", a, a), node("not", a), wordy("some", "child", a), wordy("every", "child", a), node("<", one, one), node("=", one, one), node(">", one, one),
	} {
		if got, err := f.Sum(n, 0, 10, 10); got != 0 || err != api.ErrKind {
			t.Errorf("%s is no sum: %d, %v", n.Kind, got, err)
		}
	}
	// What a kind does not have is not looked at.
	for _, n := range []terms.Node{
		{Kind: "not", Word: "?", N: -9, Kids: []terms.Node{{Kind: "name", Word: "none", N: -9}}},
		{Kind: "=", Word: "?", N: -9, Kids: []terms.Node{{Kind: "number", Word: "?"}, {Kind: "-", Word: "?", N: math.MinInt, Kids: []terms.Node{{Kind: "count", Word: "child", N: -9}, {Kind: "*", Word: "?", N: 10000, Kids: []terms.Node{number(200)}}}}}},
	} {
		if got, err := f.Holds(n, 0, 10, 10); !got || err != nil {
			t.Errorf("%+v: %v, %v", n, got, err)
		}
	}
}

func TestP73NobodyOrNoDay(t *testing.T) {
	f := family(t)
	for _, n := range []int{-1, math.MinInt, math.MaxInt} {
		for _, c := range [][3]int{{n, 10, 10}, {0, n, 10}, {0, 10, n}} {
			checkNobody(t, f, c)
		}
	}
	for _, c := range [][3]int{{api.MaxPeople, 10, 10}, {0, 0, 10}, {0, 10, 0}, {0, api.MaxDay + 1, 10}, {0, 10, api.MaxDay + 1}} {
		checkNobody(t, f, c)
	}
	for _, c := range [][3]int{{api.MaxPeople - 1, 1, 1}, {0, api.MaxDay, api.MaxDay}} {
		if _, err := f.Holds(named("age"), c[0], c[1], c[2]); err != nil {
			t.Errorf("%v: %v", c, err)
		}
	}
}

func checkNobody(t *testing.T, f *File, c [3]int) {
	t.Helper()
	// Ahead of all: also where a sum would be too great.
	most := number(api.MaxCoin)
	if got, err := f.Holds(node("=", node("+", most, most), most), c[0], c[1], c[2]); got || err != api.ErrKind {
		t.Errorf("%v: %v, %v", c, got, err)
	}
	if got, err := f.Sum(node("+", most, most), c[0], c[1], c[2]); got != 0 || err != api.ErrKind {
		t.Errorf("%v: %d, %v", c, got, err)
	}
}

func TestP73TheFirstErrorFromTheLeft(t *testing.T) {
	f := family(t)
	most, one := number(api.MaxCoin), number(100)
	great, wrong := node("+", most, most), number(-1)
	less := func(n terms.Node) terms.Node { return node("<", n, one) }
	for i, c := range []struct {
		n    terms.Node
		want error
	}{
		{node("and", less(great), less(wrong)), api.ErrCoin},
		{node("and", less(wrong), less(great)), api.ErrKind},
		{node("or", less(great), less(wrong)), api.ErrCoin},
		{node("or", less(wrong), less(great)), api.ErrKind},
		// Both kids are looked at, whatever the first says.
		{node("or", named("here"), less(great)), api.ErrCoin},
		{node("and", named("none"), less(great)), api.ErrCoin},
		{node("and", named("none"), less(wrong)), api.ErrKind},
		{node("<", great, wrong), api.ErrCoin},
		{node("<", wrong, great), api.ErrKind},
		{less(node("+", great, wrong)), api.ErrCoin},
		{less(node("-", wrong, great)), api.ErrKind},
		{less(node("max", great, wrong)), api.ErrCoin},
		{less(node("min", wrong, great)), api.ErrKind},
		// A node's own ahead of its kids', a rate behind its kid.
		{less(node("+", great, one, one)), api.ErrKind},
		{wordy("some", "?", less(great)), api.ErrKind},
		{less(rated(-1, great)), api.ErrCoin},
		{less(rated(-1, one)), api.ErrKind},
		{less(rated(api.MaxRate, most)), api.ErrCoin},
		{less(node("-", rated(-1, one), great)), api.ErrKind},
		{less(node("-", great, rated(-1, one))), api.ErrCoin},
		{wordy("every", "child", node("and", less(great), less(wrong))), api.ErrCoin},
		// Of all others: the first one's.
		{wordy("some", "child", node("<", node("+", named("age"), number(api.MaxCoin-1000)), most)), api.ErrCoin},
		{wordy("every", "child", node("<", node("-", number(0), node("+", named("age"), number(api.MaxCoin-1000))), one)), api.ErrCoin},
	} {
		if got, err := f.Holds(c.n, 0, 10, 10); got || !errors.Is(err, c.want) {
			t.Errorf("number %d: %v, %v; want %v", i, got, err, c.want)
		}
	}
	// The one who comes later is looked at, too, though the first one says it all.
	later := wordy("some", "child", node("or", node("=", named("age"), number(1800)), node("<", rated(10000, node("-", number(api.MaxCoin), node("-", named("age"), number(1000)))), most)))
	if got, err := f.Holds(later, 0, 10, 10); got || err != api.ErrCoin {
		t.Errorf("%v, %v", got, err)
	}
}

// plainly is what a node is worth, by rules that are written down as they stand in the document.
func plainly(f *File, n terms.Node, sum bool, who, on, known int) int {
	kid := func(i int, sum bool) int { return plainly(f, n.Kids[i], sum, who, on, known) }
	is := func(ok bool) int { return map[bool]int{true: 1}[ok] }
	if sum {
		switch n.Kind {
		case "number":
			return n.N
		case "name":
			value, _ := f.Value(who, n.Word, on, known)
			return value
		case "count":
			return 100 * len(f.Others(who, n.Word, on, known))
		case "total":
			all := 0
			for _, other := range f.Others(who, n.Kids[0].Word, on, known) {
				value, _ := f.Value(other, n.Word, on, known)
				all += value
			}
			return all
		case "*":
			part, err := coin.Part(kid(0, true), n.N, api.HalfUp)
			if err != nil {
				panic(err)
			}
			return part
		}
		a, b := kid(0, true), kid(1, true)
		return map[string]int{"+": a + b, "-": a - b, "max": max(a, b), "min": min(a, b)}[n.Kind]
	}
	switch n.Kind {
	case "name":
		value, there := f.Value(who, n.Word, on, known)
		return is(there && value != 0)
	case "not":
		return is(kid(0, false) == 0)
	case "or":
		return is(kid(0, false)+kid(1, false) > 0)
	case "and":
		return is(kid(0, false)+kid(1, false) == 2)
	case "some", "every":
		others := f.Others(who, n.Word, on, known)
		holding := 0
		for _, other := range others {
			holding += plainly(f, n.Kids[0], false, other, on, known)
		}
		return is(n.Kind == "some" && holding > 0 || n.Kind == "every" && holding == len(others))
	}
	a, b := kid(0, true), kid(1, true)
	return is(map[string]bool{"<": a < b, "<=": a <= b, "=": a == b, "<>": a != b, ">=": a >= b, ">": a > b}[n.Kind])
}

// someNode is a condition or a sum that is right.
func someNode(r *rand.Rand, sum bool, deep int) terms.Node {
	word := func() string { return []string{"a", "b"}[r.Intn(2)] }
	pick := func(kinds ...string) string { return kinds[r.Intn(len(kinds))] }
	kids := func(sum bool, count int) []terms.Node {
		var list []terms.Node
		for range count {
			list = append(list, someNode(r, sum, deep-1))
		}
		return list
	}
	if sum && (deep == 0 || r.Intn(3) == 0) {
		n := wordy(pick("number", "name", "count", "total"), word())
		n.N = r.Intn(5)
		if n.Kind == "total" {
			n.Kids = []terms.Node{named(word())}
		}
		return n
	}
	if sum {
		if r.Intn(4) == 0 {
			return rated(r.Intn(20000), someNode(r, true, deep-1))
		}
		return node(pick("+", "-", "max", "min"), kids(true, 2)...)
	}
	switch {
	case deep == 0:
		return named(word())
	case r.Intn(3) == 0:
		return wordy(pick("some", "every"), word(), kids(false, 1)...)
	case r.Intn(3) == 0:
		return node(pick("<", "<=", "=", "<>", ">=", ">"), kids(true, 2)...)
	case r.Intn(4) == 0:
		return node("not", kids(false, 1)...)
	}
	return node(pick("or", "and"), kids(false, 2)...)
}

func TestP73AsTheDocumentSays(t *testing.T) {
	const people, days = 4, 9
	r := rand.New(rand.NewSource(8))
	held := 0
	for range 3000 {
		f := someFile(t, r, people, days)
		who, on, known := r.Intn(people), 1+r.Intn(2*days), 1+r.Intn(days)
		n := someNode(r, false, 1+r.Intn(5))
		got, err := f.Holds(n, who, on, known)
		if want := plainly(f, n, false, who, on, known) == 1; got != want || err != nil {
			t.Fatalf("%+v: %v, %v", n, got, err)
		}
		if got {
			held++
		}
		n = someNode(r, true, 1+r.Intn(5))
		sum, err := f.Sum(n, who, on, known)
		if want := plainly(f, n, true, who, on, known); sum != want || err != nil {
			t.Fatalf("%+v: %d, %v; want %d", n, sum, err, want)
		}
	}
	if held < 500 || held > 2500 {
		t.Errorf("%d held: the conditions say little", held)
	}
}

// crowd is a file in which very many stand to each other.
func crowd(t *testing.T) *File {
	t.Helper()
	f := New()
	for who := range api.MaxPeople {
		for step := 1; step <= 12; step++ {
			if err := f.Add(stands(who, "a", (who+step)%api.MaxPeople, 1, 1, 0, 1)); err != nil {
				t.Fatal(err)
			}
		}
	}
	if err := f.Add(is(7, "x", 1, 1, 0, 1)); err != nil {
		t.Fatal(err)
	}
	return f
}

// P1: as many ways as there are from one to the other by way of others.
func TestP1ManyWaysFromOneToTheOther(t *testing.T) {
	f := crowd(t)
	for i, kinds := range [][]string{{"some"}, {"every"}, {"some", "every"}} {
		n := named("x")
		for k := range api.MaxNest {
			n = wordy(kinds[k%len(kinds)], "a", n)
		}
		if got, err := f.Holds(n, 0, 1, 1); got != (i == 0) || err != nil {
			t.Errorf("%q: %v, %v", kinds, got, err)
		}
	}
}

func TestP1NodesThatAreManyMoreThanTheirLists(t *testing.T) {
	f := family(t)
	c, s := named("here"), number(api.MaxCoin)
	for range 200 {
		c = node("and", c, c)
		s = node("max", s, s)
	}
	if got, err := f.Holds(c, 0, 10, 10); !got || err != nil {
		t.Errorf("%v, %v", got, err)
	}
	if got, err := f.Sum(s, 0, 10, 10); got != api.MaxCoin || err != nil {
		t.Errorf("%d, %v", got, err)
	}
	if got, err := f.Holds(node("and", node("=", s, s), node("or", c, c)), 0, 10, 10); !got || err != nil {
		t.Errorf("%v, %v", got, err)
	}
}

func TestP1VeryDeepNodes(t *testing.T) {
	f := family(t)
	c, s := named("here"), number(0)
	for range 1000000 {
		c = node("not", c)
		s = node("+", s, number(1))
	}
	if got, err := f.Holds(c, 0, 10, 10); !got || err != nil {
		t.Errorf("%v, %v", got, err)
	}
	if got, err := f.Sum(s, 0, 10, 10); got != 1000000 || err != nil {
		t.Errorf("%d, %v", got, err)
	}
}

// circle is a node without an end: so many lists, each within the one ahead, the first within the last.
func circle(n terms.Node, at, lists int) terms.Node {
	all := make([]terms.Node, lists)
	for i := range all {
		all[i] = n
		all[i].Kids = slices.Clone(n.Kids)
	}
	for i := range all {
		all[i].Kids[at] = all[(i+1)%lists]
	}
	return all[0]
}

func TestP1P2NodesWithoutAnEnd(t *testing.T) {
	f := family(t)
	most, here := number(api.MaxCoin), named("here")
	great := node("<", node("+", most, most), most)
	for lists := 1; lists <= 4; lists++ {
		for i, c := range []struct {
			n    terms.Node
			want error
		}{
			{circle(node("not", here), 0, lists), api.ErrKind},
			{circle(node("or", here, here), 0, lists), api.ErrKind},
			{circle(node("and", here, here), 1, lists), api.ErrKind},
			{circle(node("and", here, great), 0, lists), api.ErrKind},
			{circle(node("and", great, here), 1, lists), api.ErrCoin},
			{node("=", circle(node("+", most, most), 0, lists), most), api.ErrKind},
			{node("=", circle(node("+", most, most), 1, lists), most), api.ErrKind},
			{node("=", circle(rated(10000, most), 0, lists), most), api.ErrKind},
			{node("=", most, circle(node("max", most, most), 1, lists)), api.ErrKind},
			{node("=", most, circle(wordy("total", "age", most), 0, lists)), api.ErrKind},
		} {
			if got, err := f.Holds(c.n, 0, 10, 10); got || err != c.want {
				t.Errorf("number %d, %d lists: %v, %v", i, lists, got, err)
			}
		}
		// There is an end to those who are asked: 4 has no kids.
		for _, kind := range []string{"some", "every"} {
			n := circle(wordy(kind, "child", here), 0, lists)
			if got, err := f.Holds(n, 0, 10, 10); got != (kind == "every") || err != nil {
				t.Errorf("%s, %d lists: %v, %v", kind, lists, got, err)
			}
			if got, err := crowd(t).Holds(circle(wordy(kind, "a", here), 0, lists), 0, 10, 10); got || err != api.ErrKind {
				t.Errorf("%s, %d lists: %v, %v", kind, lists, got, err)
			}
		}
	}
}

func TestP4NodesAreOnlyRead(t *testing.T) {
	f := family(t)
	const text = "some child (age + 5 * 50% > max(1, count child)) and total age of child = 25"
	n := condition(t, text)
	for range 2 {
		if got, err := f.Holds(n, 0, 10, 10); !got || err != nil {
			t.Errorf("%v, %v", got, err)
		}
	}
	if !reflect.DeepEqual(n, condition(t, text)) {
		t.Errorf("%+v", n)
	}
}
