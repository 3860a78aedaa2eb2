package reason

import (
	"math"
	"slices"
	"testing"

	"statute/api"
)

// strict, usual and against are the three kinds of rules.
func strict(head int, body ...int) Rule { return Rule{api.Strict, head, body} }

func usual(head int, body ...int) Rule { return Rule{api.Defeasible, head, body} }

func against(head int, body ...int) Rule { return Rule{api.Defeater, head, body} }

// rulesOf, pairsOf and same are lists that have one thing throughout.
func rulesOf(n int, r Rule) []Rule { return slices.Repeat([]Rule{r}, n) }

func pairsOf(n int, pair [2]int) [][2]int { return slices.Repeat([][2]int{pair}, n) }

func same(n, what int) []int { return slices.Repeat([]int{what}, n) }

// check that a theory is valid, or what is wrong with it, by Valid and by Solve.
func check(t *testing.T, what string, theory Theory, want error) {
	t.Helper()
	if err := Valid(theory); err != want {
		t.Errorf("%s: %v, want %v", what, err, want)
	}
	k, err := Solve(theory)
	if err != want {
		t.Errorf("%s, solved: %v, want %v", what, err, want)
	}
	length := 2 * theory.Names
	if want != nil {
		length = 0
	}
	if len(k.Sure) != length || len(k.Holds) != length {
		t.Errorf("%s: %d and %d places, want %d", what, len(k.Sure), len(k.Holds), length)
	}
}

func TestP80Right(t *testing.T) {
	chain := Theory{Names: 1, Rules: rulesOf(api.MaxRules, usual(1))}
	for i := range api.MaxRules - 1 {
		chain.Over = append(chain.Over, [2]int{i + 1, i})
	}
	everyPair := Theory{Names: 2, Rules: rulesOf(40, usual(-2))}
	for i := range 40 {
		for k := range i {
			everyPair.Over = append(everyPair.Over, [2]int{k, i})
		}
	}
	for what, theory := range map[string]Theory{
		"nothing":             {},
		"empty lists":         {Rules: []Rule{}, Over: [][2]int{}},
		"names alone":         {Names: api.MaxNames},
		"all kinds":           {Names: 2, Rules: []Rule{strict(1), usual(-1, 2), against(2, 1, -2), {Kind: api.Strict, Head: -2, Body: []int{}}}},
		"last literals":       {Names: api.MaxNames, Rules: []Rule{usual(api.MaxNames, -api.MaxNames), usual(-api.MaxNames, api.MaxNames)}},
		"many rules":          {Names: 1, Rules: rulesOf(api.MaxRules, usual(1))},
		"many literals":       {Names: 1, Rules: []Rule{usual(1, same(api.MaxNames, -1)...)}},
		"many pairs":          {Names: 1, Rules: rulesOf(2, usual(1)), Over: pairsOf(10*api.MaxRules, [2]int{1, 0})},
		"long chain of pairs": chain,
		"each above each":     everyPair,
		"two ways down":       {Names: 1, Rules: rulesOf(4, usual(1)), Over: [][2]int{{0, 1}, {0, 2}, {1, 3}, {2, 3}, {0, 3}}},
	} {
		check(t, what, theory, nil)
	}
}

func TestP80Bounds(t *testing.T) {
	one := []Rule{usual(1)}
	for what, theory := range map[string]Theory{
		"names below 0":     {Names: -1},
		"the least int":     {Names: math.MinInt},
		"too many names":    {Names: api.MaxNames + 1},
		"the greatest int":  {Names: math.MaxInt},
		"too many rules":    {Names: 1, Rules: rulesOf(api.MaxRules+1, usual(1))},
		"very many rules":   {Names: 1, Rules: make([]Rule, 1000000)},
		"too many pairs":    {Names: 1, Rules: rulesOf(2, usual(1)), Over: pairsOf(10*api.MaxRules+1, [2]int{1, 0})},
		"too long a body":   {Names: 1, Rules: []Rule{usual(1), usual(1, same(api.MaxNames+1, 1)...)}},
		"ahead of a kind":   {Names: -1, Rules: []Rule{{Kind: 7, Head: 1}}},
		"ahead of a name":   {Names: 1, Rules: []Rule{usual(5), usual(1, make([]int, api.MaxNames+1)...)}},
		"ahead of a number": {Names: api.MaxNames + 1, Rules: one, Over: [][2]int{{0, 5}}},
		"ahead of an order": {Names: 1, Rules: one, Over: pairsOf(10*api.MaxRules+1, [2]int{0, 0})},
		"ahead of all":      {Names: 1, Rules: []Rule{{Kind: 7, Head: 7}, usual(1, make([]int, api.MaxNames+1)...)}, Over: [][2]int{{0, 0}, {9, 9}}},
	} {
		check(t, what, theory, api.ErrBound)
	}
}

func TestP80Kinds(t *testing.T) {
	for _, kind := range []int{-1, api.Defeater + 1, math.MinInt, math.MaxInt} {
		check(t, "a kind", Theory{Names: 1, Rules: []Rule{usual(1), {Kind: kind, Head: 1}}}, api.ErrKind)
		check(t, "ahead of a name", Theory{Names: 1, Rules: []Rule{usual(2), {Kind: kind, Head: 1}}}, api.ErrKind)
		check(t, "ahead of a number", Theory{Names: 1, Rules: []Rule{{Kind: kind, Head: 1}}, Over: [][2]int{{0, 1}}}, api.ErrKind)
		check(t, "ahead of an order", Theory{Names: 1, Rules: []Rule{{Kind: kind, Head: 1}}, Over: [][2]int{{0, 0}}}, api.ErrKind)
	}
}

func TestP80Names(t *testing.T) {
	for _, q := range []int{0, 3, -3, math.MinInt, math.MaxInt} {
		check(t, "a head", Theory{Names: 2, Rules: []Rule{usual(1), usual(q)}}, api.ErrName)
		check(t, "a body", Theory{Names: 2, Rules: []Rule{usual(1), usual(1, 2, -1, q)}}, api.ErrName)
		check(t, "ahead of an order", Theory{Names: 2, Rules: []Rule{against(1, q)}, Over: [][2]int{{0, 0}}}, api.ErrName)
	}
	for _, i := range []int{-1, 2, math.MinInt, math.MaxInt} {
		two := Theory{Names: 1, Rules: rulesOf(2, usual(1))}
		two.Over = [][2]int{{0, 1}, {i, 0}}
		check(t, "the first", two, api.ErrName)
		two.Over = [][2]int{{0, 1}, {0, i}}
		check(t, "the second", two, api.ErrName)
		two.Over = [][2]int{{0, 0}, {i, i}}
		check(t, "ahead of an order", two, api.ErrName)
	}
	check(t, "no names", Theory{Rules: []Rule{usual(1)}}, api.ErrName)
	check(t, "no rules", Theory{Names: 1, Over: [][2]int{{0, 0}}}, api.ErrName)
}

func TestP80Orders(t *testing.T) {
	ring := Theory{Names: 1, Rules: rulesOf(api.MaxRules, usual(1))}
	for i := range api.MaxRules {
		ring.Over = append(ring.Over, [2]int{i, (i + 1) % api.MaxRules})
	}
	check(t, "the greatest ring", ring, api.ErrOrder)
	for what, over := range map[string][][2]int{
		"itself":              {{3, 3}},
		"each other":          {{0, 3}, {3, 0}},
		"by way of others":    {{0, 1}, {1, 2}, {2, 3}, {3, 0}},
		"beside a chain":      {{0, 1}, {2, 3}, {3, 2}},
		"below a chain":       {{0, 1}, {1, 2}, {2, 3}, {3, 2}},
		"above a chain":       {{1, 0}, {0, 1}, {1, 2}, {2, 3}},
		"one of many":         {{0, 1}, {0, 2}, {0, 3}, {1, 2}, {1, 3}, {2, 3}, {3, 1}},
		"behind pairs twice":  {{0, 1}, {0, 1}, {1, 1}},
		"of rules for others": {{4, 0}, {0, 4}},
	} {
		theory := Theory{Names: 2, Rules: []Rule{strict(1), usual(-1), against(1), usual(1), usual(2)}, Over: over}
		check(t, what, theory, api.ErrOrder)
	}
}
