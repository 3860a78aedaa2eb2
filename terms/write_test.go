package terms

import (
	"math"
	"math/rand"
	"reflect"
	"strings"
	"testing"

	"statute/api"
	"statute/day"
)

// wantWritten: a sentence has a line, of which Read makes it.
func wantWritten(t *testing.T, s Sentence) {
	t.Helper()
	line, err := Write(s)
	if err != nil {
		t.Errorf("%+v: %v", s, err)
		return
	}
	if again, is, err := Read(line); !is || err != nil || !isSame(s, again) {
		t.Errorf("%q: %+v, %v, %v; want %+v", line, again, is, err, s)
	}
}

// wantNoLine: a sentence has none.
func wantNoLine(t *testing.T, what string, s Sentence) {
	t.Helper()
	if line, err := Write(s); line != "" || err != api.ErrText {
		t.Errorf("%s: %q, %v", what, line, err)
	}
}

func TestP62LinesThatAreEasyToRead(t *testing.T) {
	for line, want := range map[string]string{
		"define x:not((a or b)and c)or(d)":                "define x: not ((a or b) and c) or d",
		"define x:(a and b)and c or(d or e)":              "define x: a and b and c or (d or e)",
		"define x:some c(a)and every d((a and(b and c)))": "define x: some c (a) and every d (a and (b and c))",
		"define x:a-[b-c]<>[d+e]-5.50*5%*0.25%":           "define x: a - [b - c] <> d + e - 5.50 * 5% * 0.25%",
		"define x:[a+b]*5%>=max(1,[min(2.00,b)])":         "define x: [a + b] * 5% >= max(1, min(2, b))",
		"define x:count a=total b of c":                   "define x: count a = total b of c",
		"rule r:h":                                        "rule r: h",
		"rule r strict:not h if a;over b;over c,d":        "rule r strict: not h if a; over b, c, d",
		"rule r defeater:h":                               "rule r defeater: h",
		"amount x:007.00+0.07 if(a);round half_even":      "amount x: 7 + 0.07 if a; round half_even",
		"amount x:a;round half_up":                        "amount x: a",
		"duty d:not a within 007days,before else e":       "duty d: not a within 7 days, before else e",
		"duty d:a within 100000 working":                  "duty d: a within 100000 working",
		"amount x:[[a-b]-[c+d]]*10%+[[[a]]]-[b*2%]*3.05%": "amount x: [a - b - [c + d]] * 10% + a - b * 2% * 3.05%",
	} {
		if got, err := Write(mustRead(t, line)); got != want || err != nil {
			t.Errorf("%q: %q, %v; want %q", line, got, err, want)
		}
	}
}

// conditions of at most so many nodes, of few names: all there are.
func conditions(size int) [][]Node {
	sums := sumsUpTo(size)
	list := make([][]Node, size+1)
	for n := 1; n <= size; n++ {
		if n == 1 {
			list[n] = append(list[n], named("a"))
		}
		for _, kid := range list[n-1] {
			list[n] = append(list[n], node("not", kid), of1("some", "b", kid))
		}
		for left := 1; left < n-1; left++ {
			for _, a := range list[left] {
				for _, b := range list[n-1-left] {
					list[n] = append(list[n], node("or", a, b), node("and", a, b))
				}
			}
			for _, a := range sums[left] {
				for _, b := range sums[n-1-left] {
					list[n] = append(list[n], node("<=", a, b))
				}
			}
		}
	}
	return list
}

func sumsUpTo(size int) [][]Node {
	list := make([][]Node, size+1)
	for n := 1; n <= size; n++ {
		if n == 1 {
			list[n] = append(list[n], named("c"), cents(150))
		}
		for _, kid := range list[n-1] {
			list[n] = append(list[n], rated(525, kid))
		}
		for left := 1; left < n-1; left++ {
			for _, a := range list[left] {
				for _, b := range list[n-1-left] {
					list[n] = append(list[n], node("+", a, b), node("-", a, b), node("max", a, b))
				}
			}
		}
	}
	return list
}

func TestP62AllSmallTrees(t *testing.T) {
	for _, some := range conditions(6) {
		for _, n := range some {
			wantWritten(t, Sentence{Kind: "define", Name: "x", Way: api.HalfUp, If: n})
		}
	}
	for _, some := range sumsUpTo(6) {
		for _, n := range some {
			wantWritten(t, Sentence{Kind: "amount", Name: "x", Way: api.Up, Sum: n, If: named("b")})
		}
	}
}

// TestP62WhatWasReadIsWritten: also where a line is as full as it can be.
func TestP62WhatWasReadIsWritten(t *testing.T) {
	r := rand.New(rand.NewSource(62))
	rules := productions()
	full := 0
	for range 4000 {
		tokens := derive(r, rules, "sentence", 0)
		// Longer ones: the condition or the sum goes on.
		for tokens[0] != "duty" && len(tight(tokens)) < api.MaxLine && r.Intn(8) > 0 {
			tokens = goOn(r, rules, tokens)
		}
		line := tight(tokens)
		s, is, err := Read(line)
		if len(line) > api.MaxLine {
			continue
		}
		if !is || err != nil {
			t.Fatalf("%q: %v, %v", line, is, err)
		}
		if len(line) > api.MaxLine-20 {
			full++
		}
		wantWritten(t, s)
	}
	if full < 20 {
		t.Errorf("%d full lines", full)
	}
}

// tight is a line of tokens, with as few blanks as can be.
func tight(tokens []string) string {
	line := tokens[0]
	for i, text := range tokens[1:] {
		if ahead := tokens[i]; isLetter(ahead[0]) && isInner(text[0]) {
			line += " "
		}
		line += text
	}
	return line
}

// goOn makes a sentence longer behind its colon.
func goOn(r *rand.Rand, rules []production, tokens []string) []string {
	colon := 0
	for tokens[colon] != ":" {
		colon++
	}
	var more []string
	switch tokens[0] {
	case "define":
		more = append(derive(r, rules, "both", 3), "or")
	case "amount":
		more = append(derive(r, rules, "part", 3), "-")
	case "rule":
		return append(tokens, append([]string{";", "over"}, derive(r, rules, "NAME", 0)...)...)
	}
	out := append([]string(nil), tokens[:colon+1]...)
	return append(append(out, more...), tokens[colon+1:]...)
}

func TestP62ALineIsUsedToTheLastByte(t *testing.T) {
	for _, text := range [][2]string{{"b<c and ", "b<c"}, {"b or ", "b"}, {"5<6or ", "b"}, {"not(b or c)and ", "b"}, {"some b(c)or ", "b"}, {"[a-b]*5%<9or", " b"}, {"max(1,2)=3and ", "b"}, {"count a=1or ", "b"}} {
		n := (api.MaxLine - len("define a:"+text[1])) / len(text[0])
		line := "define a:" + strings.Repeat(text[0], n) + text[1]
		name := strings.Repeat("n", 1+api.MaxLine-len(line))
		if len(name) > api.MaxWord {
			t.Fatalf("%q", name)
		}
		line = strings.Replace(line, "a", name, 1)
		s := mustRead(t, line)
		if got, err := Write(s); got != line || len(line) != api.MaxLine || err != nil {
			t.Errorf("%q: %q, %v", line, got, err)
		}
		s.Name += "n"
		if len(s.Name) <= api.MaxWord {
			wantNoLine(t, "a byte more", s)
		}
	}
}

func TestP62WhatHasNoLine(t *testing.T) {
	ok := named("a")
	long := strings.Repeat("q", api.MaxWord+1)
	def := func(n Node) Sentence { return Sentence{Kind: "define", Name: "x", Way: api.HalfUp, If: n} }
	sum := func(n Node) Sentence { return Sentence{Kind: "amount", Name: "x", Way: api.HalfUp, Sum: n} }
	for what, n := range map[string]Node{
		"no node": {}, "no such kind": {Kind: "xor", Kids: []Node{ok, ok}}, "a sum alone": cents(500), "a sum": node("+", ok, ok),
		"and with no kid": node("and"), "and with one": node("and", ok), "and with three": node("and", ok, ok, ok), "or with one": node("or", ok), "not with none": node("not"), "not with two": node("not", ok, ok),
		"some with no word": node("some", ok), "some with no kid": of1("some", "b"), "every with two": of1("every", "b", ok, ok), "a word too much": of1("and", "b", ok, ok), "a word at an order": of1("<", "b", ok, ok),
		"a number too much": {Kind: "or", N: 1, Kids: []Node{ok, ok}}, "a number at a name": {Kind: "name", Word: "a", N: 1}, "a kid at a name": of1("name", "a", ok), "an empty name": named(""), "a name of the grammar": named("if"),
		"a long name": named(long), "a name in capitals": named("A"), "a name with a blank": named("a b"), "a condition as a name": named("a or b"), "brackets as a name": named("(a)"), "a sum as a name": node("<", named("a+b"), ok),
		"an order of one": node("<", ok), "an order of none": node("<"), "an order of conditions": node("<", node("or", ok, ok), ok), "an order of orders": node("<", node("<", ok, ok), ok), "no such order": node("==", ok, ok),
		"a wrong one within": node("and", ok, node("not", node("or", ok, named("9")))), "a name with an end": named("a "), "another kind's sign": node(";", ok, ok),
	} {
		wantNoLine(t, what, def(n))
		wantNoLine(t, what+", with others", def(node("or", ok, n)))
		if n.Kind != "" {
			wantNoLine(t, what+", of a rule", Sentence{Kind: "rule", Name: "r", Strength: api.Defeasible, Head: "h", Way: api.HalfUp, If: n})
		}
	}
	for what, n := range map[string]Node{
		"no node": {}, "a condition": node("or", ok, ok), "an order": node("<", ok, ok), "not": node("not", ok), "some": of1("some", "b", ok), "brackets": node("[", ok),
		"a number below 0": cents(-1), "-100": cents(-100), "-150": cents(-150), "the least": cents(math.MinInt), "one too great": cents(api.MaxCoin + 1), "the greatest": cents(math.MaxInt), "a number with a word": {Kind: "number", Word: "a"},
		"a rate below 0": rated(-1, ok), "a rate too great": rated(api.MaxRate+1, ok), "a rate of two": {Kind: "*", N: 5, Kids: []Node{ok, ok}}, "a rate of none": {Kind: "*", N: 5},
		"plus of one": node("+", ok), "minus of three": node("-", ok, ok, ok), "count of none": node("count"), "count of a kid": of1("count", "a", ok), "count and a number": {Kind: "count", Word: "a", N: 1},
		"total of none": of1("total", "a"), "total of two": of1("total", "a", ok, ok), "total of a number": of1("total", "a", cents(5)), "total of a count": of1("total", "a", of1("count", "b")), "total of nothing": node("total", ok),
		"max of one": node("max", ok), "min of three": node("min", ok, ok, ok), "max with a word": of1("max", "a", ok, ok), "a name as a number": named("5"), "a bracket as a name": named("[a]"),
	} {
		wantNoLine(t, what, sum(n))
		wantNoLine(t, what+", with others", sum(node("+", ok, n)))
		wantNoLine(t, what+", held against another one", def(node("<", n, ok)))
	}
}

func TestP62SentencesThatHaveNoLine(t *testing.T) {
	rule := Sentence{Kind: "rule", Name: "r", Strength: api.Defeasible, Head: "h", Way: api.HalfUp}
	def := Sentence{Kind: "define", Name: "x", Way: api.HalfUp, If: named("a")}
	sum := Sentence{Kind: "amount", Name: "x", Way: api.Up, Sum: named("a")}
	duty := Sentence{Kind: "duty", Name: "d", Head: "h", Way: api.HalfUp, Term: day.Term{N: 5, Unit: api.Weeks}}
	for _, s := range []Sentence{rule, def, sum, duty} {
		wantWritten(t, s)
	}
	with := func(s Sentence, change func(s *Sentence)) Sentence {
		change(&s)
		return s
	}
	wantNoLine(t, "no sentence", Sentence{})
	for _, s := range []Sentence{rule, def, sum, duty} {
		for what, change := range map[string]func(s *Sentence){
			"no kind":        func(s *Sentence) { s.Kind = "" },
			"another kind":   func(s *Sentence) { s.Kind = "rules" },
			"a kind's blank": func(s *Sentence) { s.Kind += " " },
			"no name":        func(s *Sentence) { s.Name = "" },
			"a wrong name":   func(s *Sentence) { s.Name = "strict" },
			"a long name":    func(s *Sentence) { s.Name = strings.Repeat("x", api.MaxWord+1) },
			"a huge name":    func(s *Sentence) { s.Name = strings.Repeat("x", 1000000) },
			"no such way":    func(s *Sentence) { s.Way = 6 },
			"a way below 0":  func(s *Sentence) { s.Way = -1 },
			"a strength":     func(s *Sentence) { s.Strength = 3 },
			"below strict":   func(s *Sentence) { s.Strength = -1 },
			"an end":         func(s *Sentence) { s.If = Node{Word: "a"} },
			"kids of none":   func(s *Sentence) { s.If = node("", named("a")) },
			"half a sum":     func(s *Sentence) { s.Sum = Node{N: 1} },
		} {
			wantNoLine(t, s.Kind+": "+what, with(s, change))
		}
		if s.Kind != "rule" {
			wantNoLine(t, s.Kind+" over others", with(s, func(s *Sentence) { s.Over = []string{"a"} }))
			wantNoLine(t, s.Kind+" with a strength", with(s, func(s *Sentence) { s.Strength = api.Defeater }))
		}
		if s.Kind != "amount" {
			wantNoLine(t, s.Kind+" with a sum", with(s, func(s *Sentence) { s.Sum = named("a") }))
			wantNoLine(t, s.Kind+" with a way", with(s, func(s *Sentence) { s.Way = api.Down }))
		}
		if s.Kind != "duty" {
			wantNoLine(t, s.Kind+" with a term", with(s, func(s *Sentence) { s.Term.N = 1 }))
			wantNoLine(t, s.Kind+" with something else", with(s, func(s *Sentence) { s.Else = "a" }))
		} else {
			wantNoLine(t, "a duty with a condition", with(s, func(s *Sentence) { s.If = named("a") }))
		}
		if s.Head == "" {
			wantNoLine(t, s.Kind+" with a head", with(s, func(s *Sentence) { s.Head = "h" }))
			wantNoLine(t, s.Kind+" that is positive", with(s, func(s *Sentence) { s.Positive = true }))
		} else {
			wantNoLine(t, s.Kind+" without a head", with(s, func(s *Sentence) { s.Head = "" }))
			wantNoLine(t, s.Kind+" with a head that is none", with(s, func(s *Sentence) { s.Head = "not h" }))
		}
	}
	for what, term := range map[string]day.Term{
		"below 0": {N: -1}, "too long": {N: api.MaxTerm + 1}, "no such unit": {N: 1, Unit: 5}, "a unit below 0": {N: 1, Unit: -1}, "no such roll": {N: 1, Roll: 3}, "a roll below 0": {N: 1, Roll: -1}, "the least": {N: math.MinInt, Unit: math.MinInt, Roll: math.MinInt},
	} {
		wantNoLine(t, what, with(duty, func(s *Sentence) { s.Term = term }))
	}
	for what, names := range map[string][]string{"an empty name": {""}, "one of the grammar": {"a", "over"}, "two in one": {"a, b"}, "too many": make([]string, 1000000), "more than have room": strings.Split(strings.Repeat("a,", 200), ",")} {
		wantNoLine(t, what, with(rule, func(s *Sentence) { s.Over = names }))
	}
	wantNoLine(t, "an Else that is none", with(duty, func(s *Sentence) { s.Else = "else" }))
	wantWritten(t, with(rule, func(s *Sentence) { s.Over = []string{} }))
	wantWritten(t, with(def, func(s *Sentence) { s.If.Kids = []Node{} }))
}

func TestP62HowDeep(t *testing.T) {
	deep := func(n int) Node {
		out := named("b")
		for range n {
			out = node("not", out)
		}
		return out
	}
	wantWritten(t, Sentence{Kind: "define", Name: "x", Way: api.HalfUp, If: deep(api.MaxNest)})
	wantNoLine(t, "one deeper", Sentence{Kind: "define", Name: "x", Way: api.HalfUp, If: deep(api.MaxNest + 1)})
	wantNoLine(t, "much deeper", Sentence{Kind: "define", Name: "x", Way: api.HalfUp, If: deep(1000000)})
	// Brackets that were read and aren't needed are not written.
	s := mustRead(t, "define x: "+strings.Repeat("(", 40)+"b"+strings.Repeat(")", 40))
	if line, err := Write(s); line != "define x: b" || err != nil {
		t.Errorf("%q, %v", line, err)
	}
}

// circles are nodes that lie within themselves, or are many more than their lists.
func circles() []Node {
	var all []Node
	for _, kind := range []string{"or", "and", "not", "some", "<", "+", "*", "max", "name", "number", "total", "count", ""} {
		for _, n := range []int{1, 2, 3} {
			for word, first := range map[string]string{"": kind, "a": "name"} {
				kids := make([]Node, n)
				for i := range kids {
					kids[i] = Node{Kind: kind, Word: word, Kids: kids}
				}
				kids[0].Kind = first
				all = append(all, Node{Kind: kind, Word: word, Kids: kids})
			}
		}
		many := Node{Kind: kind, Word: "a"}
		for range 100 {
			many = Node{Kind: kind, Word: "a", Kids: []Node{many, many}}
		}
		all = append(all, many)
	}
	return all
}

func TestP1WriteOfNodesWithoutAnEnd(t *testing.T) {
	for _, n := range circles() {
		for _, s := range []Sentence{
			{Kind: "define", Name: "x", Way: api.HalfUp, If: n},
			{Kind: "define", Name: "x", Way: api.HalfUp, If: named("a"), Sum: n},
			{Kind: "rule", Name: "x", Strength: 1, Head: "h", Way: api.HalfUp, If: n},
			{Kind: "amount", Name: "x", Way: api.HalfUp, Sum: n},
			{Kind: "amount", Name: "x", Way: api.HalfUp, Sum: named("a"), If: n},
		} {
			wantNoLine(t, n.Kind, s)
		}
	}
}

func TestP4WriteOnlyReads(t *testing.T) {
	line := "rule r: a if not b and some c (d < 5); over e, f"
	s := mustRead(t, line)
	for range 2 {
		if got, err := Write(s); got != line || err != nil {
			t.Errorf("%q, %v", got, err)
		}
	}
	if !reflect.DeepEqual(s, mustRead(t, line)) {
		t.Errorf("%+v", s)
	}
}
