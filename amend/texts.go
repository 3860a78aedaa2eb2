package amend

import (
	"slices"
	"strings"

	"statute/api"
	"statute/script"
)

// changeTexts makes a change of a provision's heading or lines.
func changeTexts(it *api.Item, o api.Op) error {
	switch o.Kind {
	case api.OLine:
		return changeLine(it, o)
	case api.OAdd:
		return addLine(it, o)
	case api.ODrop:
		return dropLine(it, o)
	case api.OWords:
		return changeWords(it, o)
	}
	if err := checkLine(o.Text); err != nil {
		return err
	}
	it.Head = o.Text
	return nil
}

func changeLine(it *api.Item, o api.Op) error {
	if !hasLine(it, o.Line) {
		return api.ErrOrder
	}
	if err := checkLine(o.Text); err != nil {
		return err
	}
	it.Lines[o.Line] = o.Text
	return nil
}

func addLine(it *api.Item, o api.Op) error {
	if o.Line != len(it.Lines) && !hasLine(it, o.Line) {
		return api.ErrOrder
	}
	if len(it.Lines) == api.MaxLines {
		return api.ErrBound
	}
	if err := checkLine(o.Text); err != nil {
		return err
	}
	it.Lines = slices.Insert(it.Lines, o.Line, o.Text)
	return nil
}

func dropLine(it *api.Item, o api.Op) error {
	if !hasLine(it, o.Line) {
		return api.ErrOrder
	}
	it.Lines = slices.Delete(it.Lines, o.Line, o.Line+1)
	return nil
}

// changeWords puts words in the place of others, which stand in the lines just once.
func changeWords(it *api.Item, o api.Op) error {
	count, line, at := 0, 0, 0
	for i, text := range it.Lines {
		for k := range text {
			if strings.HasPrefix(text[k:], o.Text) {
				count, line, at = count+1, i, k
			}
		}
	}
	if o.Text == "" || count != 1 {
		return api.ErrWords
	}
	old := it.Lines[line]
	text := old[:at] + o.New + old[at+len(o.Text):]
	if err := checkLine(text); err != nil {
		return err
	}
	it.Lines[line] = text
	return nil
}

func hasLine(it *api.Item, number int) bool { return 0 <= number && number < len(it.Lines) }

// checkLine tells what is wrong with a text that is to be a line or a heading.
func checkLine(text string) error {
	if len(text) > api.MaxLine {
		return api.ErrBound
	}
	if !script.IsLine(text) {
		return api.ErrText
	}
	return nil
}
