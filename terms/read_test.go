package terms

import (
	"errors"
	"reflect"
	"strconv"
	"strings"
	"testing"

	"statute/api"
	"statute/day"
)

// Short forms of nodes.
func node(kind string, kids ...Node) Node { return Node{Kind: kind, Kids: kids} }
func named(name string) Node              { return Node{Kind: "name", Word: name} }
func cents(n int) Node                    { return Node{Kind: "number", N: n} }
func of1(kind, word string, kids ...Node) Node {
	return Node{Kind: kind, Word: word, Kids: kids}
}
func rated(rate int, kid Node) Node { return Node{Kind: "*", N: rate, Kids: []Node{kid}} }

// mustRead a sentence that is right.
func mustRead(t *testing.T, line string) Sentence {
	t.Helper()
	s, is, err := Read(line)
	if err != nil || !is {
		t.Fatalf("%q: %v, %v", line, is, err)
	}
	return s
}

// wantFault: of a line that is a sentence, and wrong.
func wantFault(t *testing.T, line string, at int, want error) {
	t.Helper()
	s, is, err := Read(line)
	var f *api.Fault
	if !is || !errors.As(err, &f) || f.At != at || f.Err != want || !reflect.DeepEqual(s, Sentence{}) {
		t.Errorf("%.60q: %+v, %v, %#v; want %v at %d", line, s, is, err, want, at)
	}
}

func TestP60LinesThatAreNoSentences(t *testing.T) {
	for _, line := range []string{
		"", " ", "a", "define", "rule", "amount", "duty", "define:", "rule:a", "rule\ta: b", "rules a: b", "Rule a: b", " rule a: b", "\nrule a: b",
		"over a", "if b", "some text", "anything else rule a: b", "duty, a: b", "rule_ a: b", "\xff", strings.Repeat("x ", 500), "rul e a: b",
	} {
		if s, is, err := Read(line); is || err != nil || !reflect.DeepEqual(s, Sentence{}) {
			t.Errorf("%.20q: %v, %v, %v", line, s, is, err)
		}
	}
}

func TestP60Definitions(t *testing.T) {
	a, b, c, d := named("a"), named("b"), named("c"), named("d")
	for text, want := range map[string]Node{
		"a":                         a,
		"not a":                     node("not", a),
		"not not a":                 node("not", node("not", a)),
		"a or b":                    node("or", a, b),
		"a or b or c or d":          node("or", node("or", node("or", a, b), c), d),
		"a and b and c":             node("and", node("and", a, b), c),
		"a or b and c or d":         node("or", node("or", a, node("and", b, c)), d),
		"a and b or c and d":        node("or", node("and", a, b), node("and", c, d)),
		"not a and b":               node("and", node("not", a), b),
		"not (a and b)":             node("not", node("and", a, b)),
		"a and (b and c)":           node("and", a, node("and", b, c)),
		"a or (b or c)":             node("or", a, node("or", b, c)),
		"((a))":                     a,
		"(a or b) and not (c or d)": node("and", node("or", a, b), node("not", node("or", c, d))),
		"some b (a)":                of1("some", "b", a),
		"every b (a or c)":          of1("every", "b", node("or", a, c)),
		"not some b (every c (d))":  node("not", of1("some", "b", of1("every", "c", d))),
		"some b (a) and every c (d or a) or b": node("or",
			node("and", of1("some", "b", a), of1("every", "c", node("or", d, a))), b),
	} {
		s := mustRead(t, "define x: "+text)
		if want := (Sentence{Kind: "define", Name: "x", Way: api.HalfUp, If: want}); !reflect.DeepEqual(s, want) {
			t.Errorf("%q: %+v; want %+v", text, s, want)
		}
	}
}

func TestP60OrdersAndSums(t *testing.T) {
	a, b, c := named("a"), named("b"), named("c")
	for text, want := range map[string]Node{
		"a":                              a,
		"a + b":                          node("+", a, b),
		"a - b - c":                      node("-", node("-", a, b), c),
		"a - b + c - 1":                  node("-", node("+", node("-", a, b), c), cents(100)),
		"a - [b - c]":                    node("-", a, node("-", b, c)),
		"[[a]]":                          a,
		"[a + b] * 50%":                  rated(5000, node("+", a, b)),
		"a + b * 50%":                    node("+", a, rated(5000, b)),
		"a * 1% * 0.01% + b":             node("+", rated(1, rated(100, a)), b),
		"a * 10000%":                     rated(api.MaxRate, a),
		"a * 10000.00%":                  rated(api.MaxRate, a),
		"a * 0%":                         rated(0, a),
		"a * 000000000005.25%":           rated(525, a),
		"0":                              cents(0),
		"7":                              cents(700),
		"0.07":                           cents(7),
		"12.34":                          cents(1234),
		"000000000001.00":                cents(100),
		"10000000000":                    cents(api.MaxCoin),
		"10000000000.00":                 cents(api.MaxCoin),
		"9999999999.99":                  cents(api.MaxCoin - 1),
		"count a":                        of1("count", "a"),
		"count a + count b":              node("+", of1("count", "a"), of1("count", "b")),
		"total a of b":                   of1("total", "a", b),
		"total a of b * 5% - c":          node("-", rated(500, of1("total", "a", b)), c),
		"max(a, b)":                      node("max", a, b),
		"min(a + 1, max(b, c) * 2%)":     node("min", node("+", a, cents(100)), rated(200, node("max", b, c))),
		"max([a], [b - c]) - min(a, a)":  node("-", node("max", a, node("-", b, c)), node("min", a, a)),
		"3 * 5%":                         rated(500, cents(300)),
		"[count a - total b of c] * 10%": rated(1000, node("-", of1("count", "a"), of1("total", "b", c))),
	} {
		s := mustRead(t, "amount x: "+text)
		if want := (Sentence{Kind: "amount", Name: "x", Way: api.HalfUp, Sum: want}); !reflect.DeepEqual(s, want) {
			t.Errorf("%q: %+v; want %+v", text, s, want)
		}
		for _, order := range []string{"<", "<=", "=", "<>", ">=", ">"} {
			for _, two := range [][2]string{{text, "5"}, {"5", text}} {
				line := "define x: b and " + two[0] + order + two[1] + " or c"
				kids := []Node{want, cents(500)}
				if two[0] == "5" {
					kids = []Node{cents(500), want}
				}
				whole := node("or", node("and", b, node(order, kids...)), c)
				if s := mustRead(t, line); !reflect.DeepEqual(s.If, whole) {
					t.Errorf("%q: %+v; want %+v", line, s.If, whole)
				}
			}
		}
	}
}

func TestP60Rules(t *testing.T) {
	a, b := named("a"), named("b")
	for text, want := range map[string]Sentence{
		"r: h":                            {Name: "r", Head: "h", Positive: true, Strength: api.Defeasible},
		"r: not h":                        {Name: "r", Head: "h", Strength: api.Defeasible},
		"r strict: h":                     {Name: "r", Head: "h", Positive: true, Strength: api.Strict},
		"r defeater: not h":               {Name: "r", Head: "h", Strength: api.Defeater},
		"r: h if a":                       {Name: "r", Head: "h", Positive: true, Strength: api.Defeasible, If: a},
		"r: h if a or b":                  {Name: "r", Head: "h", Positive: true, Strength: api.Defeasible, If: node("or", a, b)},
		"r: h; over s":                    {Name: "r", Head: "h", Positive: true, Strength: api.Defeasible, Over: []string{"s"}},
		"r: h; over s, t, r; over s":      {Name: "r", Head: "h", Positive: true, Strength: api.Defeasible, Over: []string{"s", "t", "r", "s"}},
		"r strict: not h if a; over s, u": {Name: "r", Head: "h", Strength: api.Strict, If: a, Over: []string{"s", "u"}},
	} {
		want.Kind, want.Way = "rule", api.HalfUp
		if s := mustRead(t, "rule "+text); !reflect.DeepEqual(s, want) {
			t.Errorf("%q: %+v; want %+v", text, s, want)
		}
	}
}

func TestP60Amounts(t *testing.T) {
	for i, way := range []string{"down", "up", "floor", "ceil", "half_up", "half_even"} {
		for text, want := range map[string]Node{"": {}, " if b": named("b"), " if b < 5": node("<", named("b"), cents(500))} {
			s := mustRead(t, "amount x: a"+text+"; round "+way)
			if want := (Sentence{Kind: "amount", Name: "x", Sum: named("a"), If: want, Way: i}); !reflect.DeepEqual(s, want) {
				t.Errorf("%q, %s: %+v", text, way, s)
			}
		}
	}
}

func TestP60Duties(t *testing.T) {
	for i, unit := range []string{"days", "working", "weeks", "months", "years"} {
		for j, roll := range []string{"", ", next", ", before"} {
			for _, other := range []string{"", "e"} {
				for text, n := range map[string]int{"0": 0, "7": 7, "100000": 100000, "000000000007": 7} {
					line := "duty d: not h within " + text + " " + unit + roll
					if other != "" {
						line += " else " + other
					}
					want := Sentence{Kind: "duty", Name: "d", Head: "h", Way: api.HalfUp, Term: day.Term{N: n, Unit: i, Roll: j}, Else: other}
					if s := mustRead(t, line); !reflect.DeepEqual(s, want) {
						t.Errorf("%q: %+v; want %+v", line, s, want)
					}
				}
			}
		}
	}
	if s := mustRead(t, "duty d: h within 1 days"); !s.Positive {
		t.Errorf("%+v", s)
	}
}

func TestP60BlanksPartTokens(t *testing.T) {
	for _, lines := range [][]string{
		{"define x: (a or b) and c <= 5", "define x:(a or b)and c<=5", "define   x  :  (  a   or b )  and c  <=  5  "},
		{"rule r strict: not a if b; over c, d", "rule r strict:not a if b;over c,d", "rule  r strict :not  a if b ; over c ,d "},
		{"amount x: [a + 5] * 5.25% if b; round up", "amount x:[a+5]*5.25%if b;round up", "amount x : [ a + 5 ] * 5.25 % if b ; round up"},
		{"duty d: a within 14 days, next else e", "duty d:a within 14days,next else e", "duty d : a within 14  days , next  else e   "},
	} {
		want := mustRead(t, lines[0])
		for _, line := range lines[1:] {
			if s := mustRead(t, line); !reflect.DeepEqual(s, want) {
				t.Errorf("%q: %+v; want %+v", line, s, want)
			}
		}
	}
}

// grammarWords are all words of the grammar.
const grammarWords = "define rule amount duty strict defeater if over round within else not or and some every count total of max min down up floor ceil half_up half_even days working weeks months years next before"

func TestP60WordsOfTheGrammarAreNoNames(t *testing.T) {
	for _, word := range strings.Fields(grammarWords) {
		for _, line := range []string{"define @: a", "define x: a or @ ", "rule @: a", "rule x: @", "rule x: not @", "rule x: a; over @", "rule x: a; over b, @",
			"amount @: a", "amount x: count @", "amount x: total @ of b", "amount x: total a of @", "define x: every @ (b)", "duty @: a", "duty x: a within 1 days else @"} {
			at := strings.Index(line, "@")
			line = strings.Replace(line, "@", word, 1)
			s, is, err := Read(line)
			// A word with which a condition or a literal may begin is wrong later.
			var f *api.Fault
			if !is || !errors.As(err, &f) || f.Err != api.ErrText || f.At < at || !reflect.DeepEqual(s, Sentence{}) {
				t.Errorf("%q: %+v, %v, %v", line, s, is, err)
			}
		}
		for _, name := range []string{word + "_", word + "1", "x" + word} {
			if s := mustRead(t, "rule "+name+": "+name+" if "+name); s.Name != name || s.Head != name || !reflect.DeepEqual(s.If, named(name)) {
				t.Errorf("%q is a name: %+v", name, s)
			}
		}
	}
	for _, name := range []string{"name", "number", "either", "both", "unless", "test", "sum", "part", "rate", "factor", "order", "way", "unit", "roll", "literal", "sentence", "day", "a_", "a9_z", strings.Repeat("q", api.MaxWord)} {
		if s := mustRead(t, "define "+name+": "+name); s.Name != name {
			t.Errorf("%q: %+v", name, s)
		}
	}
}

func TestP61WrongTexts(t *testing.T) {
	// `@` stands ahead of the token that is wrong.
	for _, text := range []string{
		"rule @", "rule  @", "rule a@", "rule a @b", "rule @if: b", "rule @1: b", "rule @_a: b", "rule @A: b", "rule a@B: b", "rule a: @", "rule a: b @c", "rule a: b if@",
		"rule a: b if c @d", "rule a: @(b)", "rule a: not @not b", "rule a strict @defeater: b", "rule a : b if a;@", "rule a: b;@", "rule a: b; @under c", "rule a: b; over@",
		"rule a: b; over c,@", "rule a: b; over c@: d", "rule a: b; over c @d", "rule a: b @within 5 days", "rule a: b; over c @if d", "rule a: b @, c",
		"define @", "define a @strict: b", "define a:@", "define a: b @if c", "define a: b@; over c", "define a: @)", "define a: (b@", "define a: (b or@", "define a: (@)", "define a: b or @or c",
		"define a: b and@", "define a: not@", "define a: some@", "define a: some @(b)", "define a: some b@", "define a: some b @c", "define a: some b (c@", "define a: b @(c)", "define a: (b)@)",
		"define a: b < c @< d", "define a: b + c@", "define a: b + c @and d", "define a: (b + c@) < d", "define a: (b) @< c", "define a: b < @(c)", "define a: b < @> c", "define a: b <>@> c", "define a: b > @= c", "define a: b =@< c",
		"define a: [b]@", "define a: 5@", "define a: 5 @and b", "define a: count b@", "define a: max(b, c)@", "define a: max(b@)", "define a: max(b@", "define a: max@", "define a: max @b", "define a: max(b, c@, d)",
		"define a: @B", "define a: b@.", "define a: b@|c", "define a: b@\xff", "define a: b@\t", "define a: b@\x00c", "define a: @\"b\"", "define a: b @& c", "define a: b @!= c", "define a: b =@= c",
		"amount a: b * 5@", "amount a: b * 5 @+ c", "amount a: b * @c%", "amount a: b * @%", "amount a: b *@", "amount a: b +@", "amount a: b + @- c", "amount a: @-5", "amount a: @+5", "amount a: @*", "amount a: b@%", "amount a: 5@%",
		"amount a: 1@.5", "amount a: 1@.", "amount a: 1@.a5", "amount a: 1.55@5", "amount a: 1.55@.55", "amount a: @.55", "amount a: 1@,000", "amount a: b * 5@.5%", "amount a: @(b)", "amount a: [b@", "amount a: [b@)", "amount a: [@]",
		"amount a: count@", "amount a: count @5", "amount a: total b@", "amount a: total b @c", "amount a: total b of@", "amount a: total @of b", "amount a: b @< c", "amount a: b @not c",
		"amount a: b; @over c", "amount a: b; round@", "amount a: b; round @off", "amount a: b; round up@; round up", "amount a: b; round up @if c", "amount a: b if c@,", "amount a: @not b", "amount a: b @c",
		"duty a: b@", "duty a: b @if c", "duty a: b within@", "duty a: b within @days", "duty a: b within @1.50 days", "duty a: b within @1.00 days", "duty a: b within @-1 days", "duty a: b within 5@", "duty a: b within 5 @day", "duty a: b within 5 @next",
		"duty a: b within 5 working @days", "duty a: b within 5 days,@", "duty a: b within 5 days, @stay", "duty a: b within 5 days @next", "duty a: b within 5 days, next@, next", "duty a: b within 5 days else@", "duty a: b within 5 days else @not c",
		"duty a: b within 5 days else c @d", "duty a: b within 5 days@; over c", "duty a: @(b)", "duty a@",
	} {
		wantFault(t, strings.Replace(text, "@", "", 1), strings.Index(text, "@"), api.ErrText)
	}
	wantFault(t, "define a: @", 10, api.ErrText)
}

func TestP61Bounds(t *testing.T) {
	long := strings.Repeat("q", api.MaxWord+1)
	for text, want := range map[string]error{
		// `@` stands ahead of what is wrong.
		"define @" + long + ": b":                    api.ErrBound,
		"define a: @" + long:                         api.ErrBound,
		"define a: @" + long + " < 5":                api.ErrBound,
		"define a: some @" + long + " (b)":           api.ErrBound,
		"rule a: not @" + long:                       api.ErrBound,
		"rule a: b; over c, @" + long:                api.ErrBound,
		"amount a: count @" + long:                   api.ErrBound,
		"amount a: total @" + long + " of b":         api.ErrBound,
		"amount a: total b of @" + long:              api.ErrBound,
		"duty a: b within 1 days else @" + long:      api.ErrBound,
		"amount a: @1234567890123":                   api.ErrBound,
		"amount a: @0000000000001":                   api.ErrBound,
		"amount a: @0000000000001.00":                api.ErrBound,
		"amount a: @10000000000.01":                  api.ErrBound,
		"amount a: @10000000001":                     api.ErrBound,
		"amount a: @999999999999.99 if":              api.ErrBound,
		"amount a: b * @10000.01%":                   api.ErrBound,
		"amount a: b * @10001%":                      api.ErrBound,
		"amount a: b * @10000000001%":                api.ErrBound,
		"amount a: b * @1234567890123%":              api.ErrBound,
		"amount a: b * 10000.01@":                    api.ErrText,
		"duty a: b within @100001 days":              api.ErrBound,
		"duty a: b within @100001 day":               api.ErrBound,
		"duty a: b within @999999999999 days":        api.ErrBound,
		"duty a: b within @1234567890123 days":       api.ErrBound,
		"amount a: b @" + long:                       api.ErrText,
		"rule @1234567890123: b":                     api.ErrText,
		"rule a @" + long + ": b":                    api.ErrText,
		"rule a: b @10000000001":                     api.ErrText,
		"duty a: b within @100001.00 days":           api.ErrText,
		"duty a: b within 5 @" + long:                api.ErrText,
		"define a: @B " + long:                       api.ErrText,
		"define a: b < @10000000001 c < 10000000001": api.ErrBound,
	} {
		wantFault(t, strings.Replace(text, "@", "", 1), strings.Index(text, "@"), want)
	}
	ahead, full := "define a:", api.MaxLine-len("define a:")
	mustRead(t, ahead+strings.Repeat(" ", full-1)+"b")
	wantFault(t, ahead+strings.Repeat(" ", full)+"b", 0, api.ErrBound)
	wantFault(t, "rule "+strings.Repeat("?", api.MaxLine), 0, api.ErrBound)
	wantFault(t, "rule "+strings.Repeat("?", api.MaxLine-5), 5, api.ErrText)
	wantFault(t, "duty "+strings.Repeat("x", 1000000), 0, api.ErrBound)
}

func TestP61HowDeepItGoes(t *testing.T) {
	for _, text := range []struct {
		line, open, shut string
		at               int // of what goes deeper, in open
	}{
		{"define a:", "(", ")", 0},
		{"define a:", "not ", "", 0},
		{"define a:", "c and(", ")", 5},
		{"define a:", "some c(", "", 0},
		{"amount a:", "[", "]", 0},
		{"amount a:", "max(", "", 0},
		{"amount a:", "min(", "", 0},
		{"amount a:", "c-[", "]", 2},
		{"amount a:b if ", "(", ")", 0},
		{"rule a:not b if ", "(", ")", 0},
	} {
		most := text.line + strings.Repeat(text.open, api.MaxNest)
		wantFault(t, most+text.open+"b", len(most)+text.at, api.ErrBound)
		if whole := most + "b" + strings.Repeat(text.shut, api.MaxNest); text.shut != "" && len(whole) <= api.MaxLine {
			mustRead(t, whole)
		} else if len(whole) <= api.MaxLine {
			wantFault(t, whole+"?", len(whole), api.ErrText)
		}
	}
	// Of all kinds together.
	mixed := "define a:" + strings.Repeat("not(", 17) + "every c(not some d(max([b"
	wantFault(t, mixed+"]", len(mixed)+1, api.ErrText)
	wantFault(t, mixed+"+[[min(", len(mixed)+2, api.ErrBound)
}

func TestP61WhatIsOverDoesNotCountAsDeep(t *testing.T) {
	side := strings.Repeat("(", 39) + "b" + strings.Repeat(")", 39)
	mustRead(t, "define a:("+side+" or "+side+")and "+side)
	mustRead(t, "define a:"+strings.Repeat("not b and ", 29)+"b")
	mustRead(t, "define a:"+strings.Repeat("[b]<c or ", 32)+"b")
	mustRead(t, "amount a:"+strings.Repeat("max(b,c)+", 32)+"b")
	mustRead(t, "define a:"+strings.Repeat("some b(c)or ", 24)+"b")
}

func TestP61FarIntoALine(t *testing.T) {
	for n := range 57 {
		line := "define a: b" + strings.Repeat(" or c", n)
		mustRead(t, line)
		if len(line)+3 <= api.MaxLine {
			wantFault(t, line+" or", len(line)+3, api.ErrText)
			wantFault(t, line+" "+strconv.Itoa(n), len(line)+1, api.ErrText)
		}
	}
}

func TestP4ReadAnswersNewMemory(t *testing.T) {
	line := "rule r: a if b and c < 5; over d, e"
	s := mustRead(t, line)
	s.Over[0] = "blot"
	s.If.Kids[1].Kids[0].Word = "blot"
	if again := mustRead(t, line); again.Over[0] != "d" || again.If.Kids[1].Kids[0].Word != "c" {
		t.Errorf("%+v", again)
	}
}
