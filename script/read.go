package script

import (
	"strings"

	"statute/api"
)

// Read a law.
func Read(text string) (api.Item, error) {
	if len(text) > api.MaxText {
		return api.Item{}, &api.Fault{At: 0, Err: api.ErrBound}
	}
	var r reader
	rows := rowsOf(text)
	for at, row := range rows {
		if strings.Trim(row, " ") == "" {
			continue
		}
		if err := r.take(row); err != nil {
			return api.Item{}, &api.Fault{At: at, Err: err}
		}
	}
	if len(r.open) == 0 {
		// None of the lines is the wrong one: the law is missing behind them.
		return api.Item{}, &api.Fault{At: len(rows), Err: api.ErrText}
	}
	r.shut(0)
	return r.open[0], nil
}

// ReadItem reads one provision with all that lies in it, of lines such as stand in the form of a law that has it alone, behind the law's own one. A line of blanks alone is a provision there, whose label is none. What is wrong is told as by Read; the place of what is missing is behind all lines.
func ReadItem(rows []string) (api.Item, error) {
	r := reader{open: make([]api.Item, 1)}
	for at, row := range rows {
		if err := r.takeAlone(row); err != nil {
			return api.Item{}, &api.Fault{At: at, Err: err}
		}
	}
	if r.count == 0 {
		return api.Item{}, &api.Fault{At: len(rows), Err: api.ErrText}
	}
	r.shut(0)
	return r.open[0].Kids[0], nil
}

// rowsOf are the lines of a text; behind the end of the last one there is none, so it may be left out.
func rowsOf(text string) []string {
	if text == "" {
		return nil
	}
	return strings.Split(strings.TrimSuffix(text, lineEnd), lineEnd)
}

// reader is a law, as far as it was read.
type reader struct {
	open  []api.Item // the law, and the provisions that are open, each within the one ahead of it
	count int        // provisions so far
}

// take reads one line of a form.
func (r *reader) take(row string) error {
	if !isPlain(row) {
		return api.ErrText
	}
	if len(r.open) == 0 {
		return r.law(row)
	}
	body := strings.TrimLeft(row, " ")
	blanks := len(row) - len(body)
	around := blanks / len(indent)
	if blanks%len(indent) != 0 || around > r.innermost() {
		return api.ErrText
	}
	if rest, marked := strings.CutPrefix(body, lineMark); marked {
		return r.line(around, rest)
	}
	return r.provision(around, body)
}

// takeAlone reads one line of a law that has one provision and nothing else.
func (r *reader) takeAlone(row string) error {
	if r.count == 0 && strings.HasPrefix(row, lineMark) {
		return api.ErrText
	}
	if err := r.take(row); err != nil {
		return err
	}
	// The first provision is shut only by another one beside it.
	if len(r.open[0].Kids) > 0 {
		return api.ErrText
	}
	return nil
}

// innermost is the number of the item that was opened last; so many provisions are open.
func (r *reader) innermost() int { return len(r.open) - 1 }

// law reads the line with which a form begins.
func (r *reader) law(row string) error {
	rest, ok := strings.CutPrefix(row, lawWord)
	// Another word that begins like this one is no law, however long the line is.
	if !ok || rest != "" && !strings.HasPrefix(rest, textMark) {
		return api.ErrText
	}
	title, err := readText(rest)
	if err != nil {
		return err
	}
	r.open = append(r.open, api.Item{Head: title})
	return nil
}

// line reads what stands behind the mark of a line.
func (r *reader) line(around int, rest string) error {
	// An item with kids is no longer the innermost one: so this bars a line behind them, too.
	if around != r.innermost() {
		return api.ErrText
	}
	it := &r.open[around]
	if len(it.Lines) == api.MaxLines {
		return api.ErrBound
	}
	text, err := readText(rest)
	if err != nil {
		return err
	}
	it.Lines = append(it.Lines, text)
	return nil
}

// provision reads the first line of a provision, which ends those that are open but don't lie around it.
func (r *reader) provision(around int, body string) error {
	label, _, _ := strings.Cut(body, textMark)
	r.shut(around)
	if !IsLabel(label) || labelled(r.open[around].Kids, label) >= 0 {
		return api.ErrName
	}
	if around >= api.MaxDeep || r.count >= api.MaxItems {
		return api.ErrBound
	}
	head, err := readText(body[len(label):])
	if err != nil {
		return err
	}
	r.count++
	r.open = append(r.open, api.Item{Label: label, Head: head})
	return nil
}

// shut puts all open items behind one into those in which they lie.
func (r *reader) shut(around int) {
	for r.innermost() > around {
		last := r.innermost()
		outer := &r.open[last-1]
		outer.Kids = append(outer.Kids, r.open[last])
		r.open = r.open[:last]
	}
}

// readText is the text behind what a line of a form begins with: none, or a blank and it.
func readText(rest string) (string, error) {
	if rest == "" {
		return "", nil
	}
	text, apart := strings.CutPrefix(rest, textMark)
	if isTooLong(text) {
		return "", api.ErrBound
	}
	if !apart || text == "" || !IsLine(text) {
		return "", api.ErrText
	}
	return text, nil
}
