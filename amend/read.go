package amend

import (
	"errors"
	"strings"

	"statute/api"
	"statute/script"
)

// ReadAct: an act of a text.
func ReadAct(text string) (api.Act, error) {
	if len(text) > api.MaxText {
		return api.Act{}, &api.Fault{At: 0, Err: api.ErrBound}
	}
	rows := strings.Split(strings.TrimSuffix(text, lineEnd), lineEnd)
	act, err := readFirst(rows[0])
	if err != nil {
		return api.Act{}, &api.Fault{At: 0, Err: err}
	}
	for at := 1; at < len(rows); {
		o, used, err := readChange(rows, at, len(act.Ops))
		if err != nil {
			return api.Act{}, err
		}
		act.Ops = append(act.Ops, o)
		at += used
	}
	return act, nil
}

// readFirst reads the line with which an act begins.
func readFirst(row string) (api.Act, error) {
	var a api.Act
	c := cursor{rest: row}
	c.take(actWord)
	a.Name = c.name()
	c.take(madeWord)
	a.Made = c.day()
	c.take(fromWord)
	a.From = c.day()
	if c.has(untilWord) {
		a.Until = c.day()
	}
	if !c.isOver() {
		return api.Act{}, api.ErrText
	}
	return a, checkOrder(a)
}

// readChange reads the change that begins at a line, with so many ahead of it, and tells how many lines it has.
func readChange(rows []string, at, ahead int) (api.Op, int, error) {
	o, ok := readRow(rows[at])
	if !ok {
		return api.Op{}, 0, &api.Fault{At: at, Err: api.ErrText}
	}
	if ahead == api.MaxOps {
		return api.Op{}, 0, &api.Fault{At: at, Err: api.ErrBound}
	}
	if o.Kind != api.OPut {
		return o, 1, nil
	}
	inner := innerRows(rows[at+1:])
	it, err := script.ReadItem(inner)
	if err != nil {
		return api.Op{}, 0, further(err, at+1)
	}
	o.Item = it
	return o, 1 + len(inner), nil
}

// innerRows are the lines up to the first one that is no deeper than an act's line, each as if that were a law's.
func innerRows(rows []string) []string {
	var inner []string
	for _, row := range rows {
		body, deeper := strings.CutPrefix(row, indent)
		if !deeper {
			break
		}
		inner = append(inner, body)
	}
	return inner
}

// further is an error whose place is so many lines further on.
func further(err error, lines int) error {
	var f *api.Fault
	if errors.As(err, &f) {
		return &api.Fault{At: f.At + lines, Err: f.Err}
	}
	return err
}

// readRow reads a change's own line; false: it is none.
func readRow(row string) (api.Op, bool) {
	for kind, word := range changeWord {
		if rest, begins := strings.CutPrefix(row, word); begins && word != "" {
			return readFields(kind, rest)
		}
	}
	return api.Op{}, false
}

// readFields reads what stands behind the words with which a change of a kind begins.
func readFields(kind int, rest string) (api.Op, bool) {
	o := api.Op{Kind: kind}
	c := cursor{rest: rest}
	switch kind {
	case api.OLine, api.OAdd, api.ODrop:
		o.Line = c.number()
		c.take(ofWord)
	}
	o.Path = c.path()
	switch kind {
	case api.OHead, api.OLine, api.OAdd:
		o.Text = c.text()
	case api.OWords:
		c.take(textMark)
		o.Text = c.quoted()
		c.take(becomesWord)
		o.New = c.quoted()
	case api.OPut:
		o.At = c.behind()
		c.take(noTextMark)
	case api.OLabel:
		c.take(textMark)
		o.Text = c.label()
	case api.OMove:
		c.take(toWord)
		o.New = c.path()
		o.At = c.behind()
	}
	return o, c.isOver()
}
