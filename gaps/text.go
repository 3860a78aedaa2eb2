package gaps

import (
	"slices"
	"strings"

	"statute/api"
)

// Words and marks of a table's text.
const (
	lineEnd  = "\n"
	ask      = "ask "
	asked    = ": "
	ifWord   = "if "
	always   = "always"
	then     = " " + thenName + " "
	nextMark = ", "
	orMark   = "|"
	blank    = " "
)

// Write a table.
func Write(t Table) (string, error) {
	if err := Valid(t); err != nil {
		return "", err
	}
	var text strings.Builder
	for _, q := range t.Questions {
		text.WriteString(ask + q.Name + asked + strings.Join(q.Answers, nextMark) + lineEnd)
	}
	for _, r := range t.Rows {
		text.WriteString(t.conditions(r) + then + r.Out + lineEnd)
	}
	if text.Len() > api.MaxText {
		return "", api.ErrBound
	}
	return text.String(), nil
}

// conditions of a row, as they are written.
func (t Table) conditions(r Row) string {
	var cells []string
	for i, cell := range r.Cells {
		if cell != nil {
			cells = append(cells, t.Questions[i].condition(cell))
		}
	}
	if cells == nil {
		return always
	}
	return ifWord + strings.Join(cells, nextMark)
}

// condition that a question has one of the answers of a cell.
func (q Question) condition(cell []int) string {
	if len(cell) == 0 {
		return q.Name + blank + noneName
	}
	var answers []string
	for _, n := range cell {
		answers = append(answers, q.Answers[n])
	}
	return q.Name + blank + strings.Join(answers, orMark)
}

// Read a table.
func Read(text string) (Table, error) {
	if len(text) > api.MaxText {
		return Table{}, &api.Fault{At: 0, Err: api.ErrBound}
	}
	var t Table
	at := 0
	for line := range strings.Lines(text) {
		if err := t.readLine(strings.TrimSuffix(line, lineEnd)); err != nil {
			return Table{}, &api.Fault{At: at, Err: err}
		}
		at++
	}
	if err := Valid(t); err != nil {
		return Table{}, &api.Fault{At: -1, Err: err}
	}
	return t, nil
}

// readLine of a text, behind those that were read into the table.
func (t *Table) readLine(line string) error {
	if question, ok := strings.CutPrefix(line, ask); ok {
		return t.readQuestion(question)
	}
	if out, ok := strings.CutPrefix(line, always+then); ok {
		return t.add(Row{make([][]int, len(t.Questions)), out})
	}
	row, ok := strings.CutPrefix(line, ifWord)
	if !ok {
		return api.ErrText
	}
	return t.readRow(row)
}

func (t *Table) readQuestion(text string) error {
	name, answers, ok := strings.Cut(text, asked)
	if !ok || len(t.Rows) > 0 {
		return api.ErrText
	}
	if len(t.Questions) == api.MaxCells {
		return api.ErrBound
	}
	t.Questions = append(t.Questions, Question{name, strings.Split(answers, nextMark)})
	return nil
}

func (t *Table) readRow(text string) error {
	conditions, out, ok := strings.Cut(text, then)
	if !ok {
		return api.ErrText
	}
	cells, err := t.readCells(conditions)
	if err != nil {
		return err
	}
	return t.add(Row{cells, out})
}

// add a row.
func (t *Table) add(r Row) error {
	if len(t.Rows) == api.MaxRows {
		return api.ErrBound
	}
	t.Rows = append(t.Rows, r)
	return nil
}

func (t *Table) readCells(text string) ([][]int, error) {
	cells := make([][]int, len(t.Questions))
	ahead := -1
	for cell := range strings.SplitSeq(text, nextMark) {
		name, answers, ok := strings.Cut(cell, blank)
		if !ok {
			return nil, api.ErrText
		}
		at := slices.IndexFunc(t.Questions, func(q Question) bool { return q.Name == name })
		if at < 0 {
			return nil, api.ErrName
		}
		if at <= ahead {
			return nil, api.ErrOrder
		}
		numbers, err := t.Questions[at].readAnswers(answers)
		if err != nil {
			return nil, err
		}
		cells[at], ahead = numbers, at
	}
	return cells, nil
}

// readAnswers are the numbers of answers that are told; not nil, also where there are none.
func (q Question) readAnswers(text string) ([]int, error) {
	numbers := []int{}
	if text == noneName {
		return numbers, nil
	}
	ahead := -1
	for name := range strings.SplitSeq(text, orMark) {
		n := slices.Index(q.Answers, name)
		if n < 0 {
			return nil, api.ErrName
		}
		if n <= ahead {
			return nil, api.ErrOrder
		}
		numbers = append(numbers, n)
		ahead = n
	}
	return numbers, nil
}
