package why

import (
	"strings"

	"statute/api"
)

const (
	lineEnd  = "\n"
	opposite = "not "
	noName   = "?"
)

// words of a step, up to the blank behind them.
func (s Step) words() string {
	switch {
	case s.Sure && s.Says:
		return "sure "
	case s.Sure:
		return "not sure "
	case s.Says:
		return "holds "
	}
	return "fails "
}

// Text of an explanation.
func Text(l []Step, names []string) string {
	var text strings.Builder
	for _, s := range l {
		text.WriteString(s.words())
		text.WriteString(literalText(s.Literal, names))
		text.WriteString(lineEnd)
	}
	return text.String()
}

func literalText(literal int, names []string) string {
	sign := ""
	if literal < 0 {
		sign, literal = opposite, -literal
	}
	// The least of all numbers has no opposite: it is still below 0.
	if literal < 1 || literal > len(names) {
		return noName
	}
	return sign + names[literal-1]
}

// Read an explanation.
func Read(text string, names []string) ([]Step, error) {
	literals := literalsOf(names)
	var steps []Step
	at := 0
	for line := range strings.Lines(text) {
		step, err := readStep(strings.TrimSuffix(line, lineEnd), literals)
		if err != nil {
			return nil, &api.Fault{At: at, Err: err}
		}
		steps = append(steps, step)
		at++
	}
	if len(text) > api.MaxText {
		return nil, &api.Fault{At: 0, Err: api.ErrBound}
	}
	return steps, nil
}

// literalsOf names: their numbers and one.
func literalsOf(names []string) map[string]int {
	literals := map[string]int{}
	for i, name := range names {
		literals[name] = i + 1
	}
	return literals
}

// readStep of a line without its end.
func readStep(line string, literals map[string]int) (Step, error) {
	for _, step := range [...]Step{{Sure: true, Says: true}, {Sure: true}, {Says: true}, {}} {
		if what, ok := strings.CutPrefix(line, step.words()); ok {
			name, isOpposite := strings.CutPrefix(what, opposite)
			step.Literal = literals[name]
			if step.Literal == 0 {
				return Step{}, api.ErrName
			}
			if isOpposite {
				step.Literal = -step.Literal
			}
			return step, nil
		}
	}
	return Step{}, api.ErrText
}
