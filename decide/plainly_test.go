package decide

import (
	"fmt"
	"math/rand"
	"slices"
	"strings"
	"testing"

	"statute/api"
	"statute/coin"
	"statute/facts"
	"statute/reason"
	"statute/terms"
)

// plainly is a case by rules that are written down as they stand in the document.
type plainly struct {
	list  []terms.Placed
	file  *facts.File
	c     Case
	names []string
}

// look at a condition: its literals, and whether all else holds.
func (p plainly) look(s terms.Placed) ([]int, bool, error) {
	n, err := terms.Opened(p.list, s.Path, s.Sentence.If)
	if err != nil || n.Kind == "" {
		return nil, err == nil, err
	}
	var literals []int
	all := true
	var part func(n terms.Node) error
	part = func(n terms.Node) error {
		if n.Kind == "and" {
			if err := part(n.Kids[0]); err != nil {
				return err
			}
			return part(n.Kids[1])
		}
		if n.Kind == "name" && slices.Contains(p.names, n.Word) {
			literals = append(literals, slices.Index(p.names, n.Word)+1)
			return nil
		}
		if n.Kind == "not" && n.Kids[0].Kind == "name" && slices.Contains(p.names, n.Kids[0].Word) {
			literals = append(literals, -slices.Index(p.names, n.Kids[0].Word)-1)
			return nil
		}
		is, err := p.file.Holds(n, p.c.Who, p.c.On, p.c.Known)
		all = all && is
		return err
	}
	err = part(n)
	return literals, all, err
}

func (p plainly) theory() (reason.Theory, []int, error) {
	t := reason.Theory{Names: len(p.names)}
	var from []int
	for i, s := range p.list {
		if s.Sentence.Kind != "rule" {
			continue
		}
		body, in, err := p.look(s)
		if err != nil {
			return t, nil, err
		}
		head := slices.Index(p.names, s.Sentence.Head) + 1
		if !s.Sentence.Positive {
			head = -head
		}
		if in {
			t.Rules = append(t.Rules, reason.Rule{Kind: s.Sentence.Strength, Head: head, Body: body})
			from = append(from, i)
		}
	}
	t.Over = p.over(t.Rules, from)
	return t, from, reason.Valid(t)
}

// over: the pairs that are said, and those of rules that lie deeper.
func (p plainly) over(rules []reason.Rule, from []int) [][2]int {
	var pairs [][2]int
	for i := range rules {
		for k := range rules {
			if slices.Contains(p.list[from[i]].Sentence.Over, p.list[from[k]].Sentence.Name) {
				pairs = append(pairs, [2]int{i, k})
			}
		}
	}
	said := slices.Clone(pairs)
	for i, a := range rules {
		for k, b := range rules {
			inner, outer := p.list[from[i]].Path, p.list[from[k]].Path
			if a.Head+b.Head != 0 || a.Kind != api.Defeasible || b.Kind != api.Defeasible || leads(said, i, k) || leads(said, k, i) {
				continue
			}
			if inner != outer && strings.HasPrefix("/"+inner+"/", strings.TrimSuffix("/"+outer, "/")+"/") {
				pairs = append(pairs, [2]int{i, k})
			}
		}
	}
	slices.SortFunc(pairs, func(x, y [2]int) int { return slices.Compare(x[:], y[:]) })
	return slices.Compact(pairs)
}

// leads tells whether pairs lead from one to another.
func leads(pairs [][2]int, from, to int) bool {
	met := []int{from}
	for i := 0; i < len(met); i++ {
		for _, pair := range pairs {
			if pair[0] == met[i] && pair[1] == to {
				return true
			}
			if pair[0] == met[i] && !slices.Contains(met, pair[1]) {
				met = append(met, pair[1])
			}
		}
	}
	return false
}

// sumsOf an amount's sentences.
func (p plainly) sumsOf(name string) []terms.Placed {
	var all []terms.Placed
	for _, s := range p.list {
		if s.Sentence.Kind == "amount" && s.Sentence.Name == name {
			all = append(all, s)
		}
	}
	return all
}

// spokenOf by a sum.
func spokenOf(n terms.Node) []string {
	if n.Kind == "total" {
		return nil
	}
	var all []string
	if n.Kind == "name" {
		all = append(all, n.Word)
	}
	for _, kid := range n.Kids {
		all = append(all, spokenOf(kid)...)
	}
	return all
}

// hangs tells whether an amount hangs on one of those on the way to it, by way of others or not.
func (p plainly) hangs(way []string) bool {
	for _, s := range p.sumsOf(way[len(way)-1]) {
		for _, name := range spokenOf(s.Sentence.Sum) {
			if slices.Contains(way, name) || p.hangs(append(slices.Clone(way), name)) {
				return true
			}
		}
	}
	return false
}

// amount of a name, by what follows.
func (p plainly) amount(name string, k reason.Known) (int, error) {
	all := 0
	for _, s := range p.sumsOf(name) {
		literals, holds, err := p.look(s)
		if err != nil {
			return 0, err
		}
		for _, q := range literals {
			holds = holds && (q > 0 && k.Holds[2*q-2] == api.Yes || q < 0 && k.Holds[-2*q-1] == api.Yes)
		}
		if !holds {
			continue
		}
		cents, err := p.sum(s.Sentence.Sum, s.Sentence.Way, k)
		if err != nil {
			return 0, err
		}
		all += cents
	}
	return sized(all)
}

func sized(n int) (int, error) {
	if n > api.MaxCoin || n < -api.MaxCoin {
		return 0, api.ErrCoin
	}
	return n, nil
}

// sum of a node.
func (p plainly) sum(n terms.Node, way int, k reason.Known) (int, error) {
	if n.Kind == "name" && len(p.sumsOf(n.Word)) > 0 {
		return p.amount(n.Word, k)
	}
	if n.Kind == "name" || n.Kind == "number" || n.Kind == "count" || n.Kind == "total" {
		return p.file.Sum(n, p.c.Who, p.c.On, p.c.Known)
	}
	a, err := p.sum(n.Kids[0], way, k)
	if err != nil {
		return 0, err
	}
	if n.Kind == "*" {
		return coin.Part(a, n.N, way)
	}
	b, err := p.sum(n.Kids[1], way, k)
	if err != nil {
		return 0, err
	}
	return sized(map[string]int{"+": a + b, "-": a - b, "max": max(a, b), "min": min(a, b)}[n.Kind])
}

func (p plainly) decide() (Answer, error) {
	t, _, err := p.theory()
	if err != nil {
		return Answer{}, err
	}
	k, _ := reason.Solve(t)
	a := Answer{Names: p.names, Known: k}
	var names []string
	for _, s := range p.list {
		if s.Sentence.Kind == "amount" && !slices.Contains(names, s.Sentence.Name) {
			names = append(names, s.Sentence.Name)
		}
	}
	slices.Sort(names)
	for _, name := range names {
		if p.hangs([]string{name}) {
			return Answer{}, api.ErrOrder
		}
	}
	for _, name := range names {
		cents, err := p.amount(name, k)
		if err != nil {
			return Answer{}, err
		}
		a.Amounts = append(a.Amounts, Amount{name, cents})
	}
	return a, nil
}

// pick one of some texts.
func pick(r *rand.Rand, texts ...string) string { return texts[r.Intn(len(texts))] }

// someCondition as a text.
func someCondition(r *rand.Rand, deep int) string {
	if deep == 0 || r.Intn(4) == 0 {
		return pick(r, "p", "q", "s", "f", "g", "d", "e", "not p", "not q", "not d", "not f", "f > g", "x + y > 0", "9999999999 + f + z < 1")
	}
	a, b := someCondition(r, deep-1), someCondition(r, deep-1)
	return pick(r, "("+a+" and "+b+")", "("+a+" and "+b+")", "("+a+" or "+b+")", "not ("+a+")", "some kid ("+a+")", "every kid ("+a+")")
}

// someSum as a text.
func someSum(r *rand.Rand, deep int) string {
	if deep == 0 || r.Intn(4) == 0 {
		return pick(r, "x", "y", "z", "f", "g", "0.07", "13", "count kid", "total f of kid", "total x of kid", "9999999999")
	}
	a, b := someSum(r, deep-1), someSum(r, deep-1)
	return pick(r, "["+a+" + "+b+"]", "["+a+" - "+b+"]", "max("+a+", "+b+")", "min("+a+", "+b+")", "["+a+"] * 33.33%", "["+a+"] * 50%")
}

// someLine is a sentence as a text.
func someLine(r *rand.Rand) string {
	condition := ""
	if r.Intn(3) > 0 {
		condition = " if " + someCondition(r, 2)
	}
	switch r.Intn(8) {
	case 0:
		return "define " + pick(r, "d", "e", "e") + ": " + someCondition(r, 1)
	case 1, 2, 3:
		return "amount " + pick(r, "x", "y", "z") + ": " + someSum(r, 2) + condition + pick(r, "", "", "; round down", "; round ceil", "; round half_even")
	}
	over := pick(r, "", "", "; over r1", "; over r2, r3", "; over r2; over none")
	return "rule " + pick(r, "r1", "r2", "r3", "r4") + pick(r, "", "", "", " strict", " defeater") + ": " + pick(r, "p", "not p", "q", "not q", "s") + condition + over
}

// someLaw of provisions within each other and beside each other.
func someLaw(r *rand.Rand) api.Item {
	item := func(label string, kids ...api.Item) api.Item {
		it := api.Item{Label: label, Kids: kids}
		for range r.Intn(4) {
			it.Lines = append(it.Lines, someLine(r))
		}
		return it
	}
	return item("", item("1", item("a", item("i")), item("b")), item("10", item("a")))
}

func someFile(t *testing.T, r *rand.Rand) *facts.File {
	var list []facts.Fact
	for range 12 {
		x := is(r.Intn(3), pick(r, "p", "q", "f", "g", "d", "x"), []int{0, 1, 105, -3333, 2599}[r.Intn(5)])
		if r.Intn(4) == 0 {
			x = stands(0, "kid", 1+r.Intn(2))
		}
		x.From, x.Learnt = 1+r.Intn(6), 1+r.Intn(6)
		list = append(list, x)
	}
	return fileOf(t, list...)
}

func TestP100P101AsTheDocumentSays(t *testing.T) {
	r := rand.New(rand.NewSource(100))
	told := map[string]int{}
	for range 10000 {
		l, f := someLaw(r), someFile(t, r)
		c := Case{Who: r.Intn(2), On: 1 + r.Intn(6), Known: 1 + r.Intn(6)}
		list, wrong := terms.All(l)
		if len(wrong) > 0 {
			t.Fatal(l, wrong)
		}
		p := plainly{list: list, file: f, c: c}
		for _, s := range list {
			if s.Sentence.Kind == "rule" && !slices.Contains(p.names, s.Sentence.Head) {
				p.names = append(p.names, s.Sentence.Head)
			}
		}
		slices.Sort(p.names)
		th, from, err := p.theory()
		want := fmt.Sprint(p.names, from, th.Rules, th.Over)
		if err != nil {
			want = err.Error()
		}
		if got := theoryText(l, f, c); got != want {
			t.Fatalf("%v: %s; want %s", l, got, want)
		}
		a, err := Decide(l, f, c)
		b, wantErr := p.decide()
		if err != wantErr || fmt.Sprint(a) != fmt.Sprint(b) {
			t.Fatalf("%v: %v, %v; want %v, %v", l, a, err, b, wantErr)
		}
		told[fmt.Sprint(err)]++
	}
	for _, err := range []error{nil, api.ErrOrder, api.ErrCoin} {
		if told[fmt.Sprint(err)] < 200 {
			t.Errorf("%v: only %d times", err, told[fmt.Sprint(err)])
		}
	}
}
