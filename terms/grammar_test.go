package terms

import (
	"math/rand"
	"strings"
	"testing"

	"statute/api"
	"statute/plain"
)

// grammarText is the grammar as the document has it, in plain rules: a word with a mark `'` stands for itself, NAME, AMOUNT (a number) and WHOLE (one without a point) for tokens.
const grammarText = `
sentence = 'define NAME ': either
sentence = 'rule NAME strength ': literal perhaps overs
sentence = 'amount NAME ': sum perhaps rounded
sentence = 'duty NAME ': literal 'within WHOLE unit rolled other
strength =
strength = 'strict
strength = 'defeater
perhaps =
perhaps = 'if either
overs =
overs = '; 'over NAME names overs
names =
names = ', NAME names
rounded =
rounded = '; 'round way
rolled =
rolled = ', roll
other =
other = 'else NAME
literal = NAME
literal = 'not NAME
either = both
either = either 'or both
both = unless
both = both 'and unless
unless = 'not unless
unless = test
test = '( either ')
test = 'some NAME '( either ')
test = 'every NAME '( either ')
test = sum order sum
test = NAME
sum = part
sum = sum '+ part
sum = sum '- part
part = factor
part = part '* AMOUNT '%
factor = AMOUNT
factor = NAME
factor = 'count NAME
factor = 'total NAME 'of NAME
factor = 'max '( sum ', sum ')
factor = 'min '( sum ', sum ')
factor = '[ sum ']
order = '<
order = '<=
order = '=
order = '<>
order = '>=
order = '>
way = 'down
way = 'up
way = 'floor
way = 'ceil
way = 'half_up
way = 'half_even
unit = 'days
unit = 'working
unit = 'weeks
unit = 'months
unit = 'years
roll = 'next
roll = 'before
`

// production is a rule of the grammar.
type production struct {
	head string
	body []string
}

func productions() []production {
	var list []production
	for _, line := range strings.Split(strings.TrimSpace(grammarText), "\n") {
		f := strings.Fields(line)
		list = append(list, production{f[0], f[2:]})
	}
	return list
}

// fits tells whether a token of a line is one of the grammar.
func fits(symbol, text string) bool {
	if word, ok := strings.CutPrefix(symbol, "'"); ok {
		return text == word
	}
	number := strings.Trim(text, "0123456789.") == ""
	switch symbol {
	case "NAME":
		return IsWord(text) && !strings.Contains(" "+grammarWords+" ", " "+text+" ")
	case "AMOUNT":
		return number
	case "WHOLE":
		return number && !strings.Contains(text, ".")
	}
	return false
}

// state of a production: how far it came, and where it began.
type state struct{ rule, dot, from int }

// firstWrong is the number of the first token that no sentence can have behind those ahead (as many as there are: the end is wrong); -1: they are a sentence. It keeps all rules in mind at once that could go on.
func firstWrong(rules []production, tokens []string) int {
	var charts []map[state]bool
	next := map[state]bool{}
	for i, r := range rules {
		if r.head == "sentence" {
			next[state{i, 0, 0}] = true
		}
	}
	for at := 0; ; at++ {
		charts = append(charts, next)
		closeChart(rules, charts, at)
		if at == len(tokens) {
			for s := range charts[at] {
				if s.from == 0 && rules[s.rule].head == "sentence" && s.dot == len(rules[s.rule].body) {
					return -1
				}
			}
			return at
		}
		next = map[state]bool{}
		for s := range charts[at] {
			if body := rules[s.rule].body; s.dot < len(body) && fits(body[s.dot], tokens[at]) {
				next[state{s.rule, s.dot + 1, s.from}] = true
			}
		}
		if len(next) == 0 {
			return at
		}
	}
}

// closeChart adds what begins at a place, and what goes on because something ends there.
func closeChart(rules []production, charts []map[state]bool, at int) {
	for again := true; again; {
		again = false
		add := func(s state) {
			if !charts[at][s] {
				charts[at][s] = true
				again = true
			}
		}
		var now []state
		for s := range charts[at] {
			now = append(now, s)
		}
		for _, s := range now {
			body := rules[s.rule].body
			if s.dot < len(body) {
				for i, r := range rules {
					if r.head == body[s.dot] {
						add(state{i, 0, at})
					}
				}
				continue
			}
			var outer []state
			for o := range charts[s.from] {
				outer = append(outer, o)
			}
			for _, o := range outer {
				if b := rules[o.rule].body; o.dot < len(b) && b[o.dot] == rules[s.rule].head {
					add(state{o.rule, o.dot + 1, o.from})
				}
			}
		}
	}
}

// derive writes a random sentence by the rules.
func derive(r *rand.Rand, rules []production, symbol string, deep int) []string {
	switch {
	case strings.HasPrefix(symbol, "'"):
		return []string{symbol[1:]}
	case symbol == "NAME":
		return []string{[]string{"a", "b", "x_1", "days2", "ifs"}[r.Intn(5)]}
	case symbol == "AMOUNT":
		return []string{[]string{"0", "5", "12.50", "100", "0.07"}[r.Intn(5)]}
	case symbol == "WHOLE":
		return []string{[]string{"0", "14", "100000"}[r.Intn(3)]}
	}
	var can []production
	for _, p := range rules {
		if p.head == symbol {
			can = append(can, p)
		}
	}
	p := can[r.Intn(len(can))]
	if deep > 6 {
		// The shortest way out, so that it ends.
		for _, q := range can {
			if len(q.body) < len(p.body) || len(q.body) == 1 && q.body[0] == "NAME" {
				p = q
			}
		}
	}
	var out []string
	for _, s := range p.body {
		out = append(out, derive(r, rules, s, deep+1)...)
	}
	return out
}

// spoil makes tokens others, mostly wrong ones.
func spoil(r *rand.Rand, tokens []string) []string {
	words := append(strings.Fields(grammarWords), strings.Fields(": , ( ) < <= = <> >= > + - * % ; [ ] a b x_1 5 0.50 14")...)
	out := append([]string(nil), tokens...)
	at := 1 + r.Intn(len(out)-1)
	switch r.Intn(5) {
	case 0:
		out[at] = words[r.Intn(len(words))]
	case 1:
		out = append(out[:at], out[at+1:]...)
	case 2:
		out = append(out[:at], append([]string{words[r.Intn(len(words))]}, out[at:]...)...)
	case 3:
		out = out[:at]
	case 4:
		other := 1 + r.Intn(len(out)-1)
		out[at], out[other] = out[other], out[at]
	}
	return out
}

// TestP60P61ByTheGrammar holds Read against the grammar, of lines that are right and lines that are nearly so.
func TestP60P61ByTheGrammar(t *testing.T) {
	r := rand.New(rand.NewSource(60))
	rules := productions()
	right, wrong := 0, 0
	for range 6000 {
		tokens := derive(r, rules, "sentence", 0)
		for range r.Intn(3) {
			if len(tokens) > 1 {
				tokens = spoil(r, tokens)
			}
		}
		line := strings.Join(tokens, " ")
		if len(tokens) == 1 {
			line += " "
		}
		if len(line) > api.MaxLine {
			continue
		}
		at := firstWrong(rules, tokens)
		s, is, err := Read(line)
		if at < 0 {
			right++
			if !is || err != nil || s.Kind != tokens[0] || s.Name != tokens[1] {
				t.Errorf("%q: %+v, %v, %v", line, s, is, err)
			}
			continue
		}
		wrong++
		want := len(line)
		if at < len(tokens) {
			want = len(strings.Join(tokens[:at], " ")) + 1
		}
		if code, place := plain.Code(err); !is || code != 1 || place != want {
			t.Errorf("%q: %v, %v at %d; want it at %d", line, is, err, place, want)
		}
	}
	if right < 1000 || wrong < 1000 {
		t.Errorf("%d right, %d wrong", right, wrong)
	}
}
