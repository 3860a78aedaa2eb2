package amend

import (
	"errors"
	"strconv"
	"strings"

	"statute/api"
	"statute/day"
	"statute/script"
)

// maxNumber is the greatest number of a line that can be told.
const maxNumber = 9999

// WriteAct: an act's text.
func WriteAct(a api.Act) (string, error) {
	if len(a.Ops) > api.MaxOps {
		return "", api.ErrBound
	}
	if !IsName(a.Name) || !hasDays(a) {
		return "", api.ErrText
	}
	if err := checkOrder(a); err != nil {
		return "", err
	}
	var s sheet
	s.first(a)
	for _, o := range a.Ops {
		if err := s.change(o); err != nil {
			return "", err
		}
	}
	return s.String(), nil
}

// hasDays tells whether the days of an act are such; that up to which it is in force may be none.
func hasDays(a api.Act) bool {
	return day.IsDay(a.Made) && day.IsDay(a.From) && (a.Until == 0 || day.IsDay(a.Until))
}

// checkOrder tells whether the days of an act are in order.
func checkOrder(a api.Act) error {
	if a.Made > a.From || a.Until != 0 && a.Until <= a.From {
		return api.ErrDay
	}
	return nil
}

// IsTimed tells whether the days of an act are such, and in order.
func IsTimed(a api.Act) bool { return hasDays(a) && checkOrder(a) == nil }

// IsName tells whether a text is an act's name.
func IsName(text string) bool {
	if text == "" || len(text) > api.MaxWord || !isLetter(rune(text[0])) {
		return false
	}
	return !strings.ContainsFunc(text, func(r rune) bool { return !isLetter(r) && !isDigit(r) })
}

func isLetter(r rune) bool { return 'a' <= r && r <= 'z' || 'A' <= r && r <= 'Z' }
func isDigit(r rune) bool  { return '0' <= r && r <= '9' }

// isPath tells whether a text is a provision's path, label by label.
func isPath(text string) bool {
	for _, label := range strings.Split(text, pathMark) {
		if !script.IsLabel(label) {
			return false
		}
	}
	return true
}

// sheet is an act's text, as far as it is written. Once something is wrong it stays so: that is asked behind each change.
type sheet struct {
	strings.Builder
	wrong bool
}

// first writes the line with which an act begins.
func (s *sheet) first(a api.Act) {
	s.WriteString(actWord + a.Name + madeWord + day.Text(a.Made) + fromWord + day.Text(a.From))
	if a.Until != 0 {
		s.WriteString(untilWord + day.Text(a.Until))
	}
	s.WriteString(lineEnd)
}

// change writes a change.
func (s *sheet) change(o api.Op) error {
	if o.Kind < api.OHead || o.Kind > api.OMove {
		return api.ErrText
	}
	s.WriteString(changeWord[o.Kind])
	s.fields(o)
	s.WriteString(lineEnd)
	if s.wrong {
		return api.ErrText
	}
	if o.Kind == api.OPut {
		if err := s.item(o.Item); err != nil {
			return err
		}
	}
	if s.Len() > api.MaxText {
		return api.ErrBound
	}
	return nil
}

// fields writes what stands behind the words with which a change begins.
func (s *sheet) fields(o api.Op) {
	switch o.Kind {
	case api.OLine, api.OAdd, api.ODrop:
		s.number(o.Line)
		s.WriteString(ofWord)
	}
	s.path(o.Path)
	switch o.Kind {
	case api.OHead, api.OLine, api.OAdd:
		s.text(o.Text)
	case api.OWords:
		s.WriteString(textMark)
		s.quoted(o.Text)
		s.WriteString(becomesWord)
		s.quoted(o.New)
	case api.OPut:
		s.behind(o.At)
		s.WriteString(noTextMark)
	case api.OLabel:
		s.WriteString(textMark)
		s.label(o.Text)
	case api.OMove:
		s.WriteString(toWord)
		s.path(o.New)
		s.behind(o.At)
	}
}

// put writes a text that stands there only if it is right.
func (s *sheet) put(text string, right bool) {
	s.wrong = s.wrong || !right
	s.WriteString(text)
}

func (s *sheet) number(n int) { s.put(strconv.Itoa(n), 0 <= n && n <= maxNumber) }

func (s *sheet) label(label string) { s.put(label, script.IsLabel(label)) }

// path writes a path; the law's has a word of its own, so a provision with that word alone has none.
func (s *sheet) path(path string) {
	if path == "" {
		s.WriteString(lawWord)
		return
	}
	s.put(path, path != lawWord && isPath(path))
}

// behind writes the label behind which something comes, if there is one.
func (s *sheet) behind(label string) {
	if label != "" {
		s.WriteString(behindWord)
		s.label(label)
	}
}

func (s *sheet) text(text string) {
	if text == "" {
		s.WriteString(noTextMark)
		return
	}
	s.WriteString(textMark)
	s.put(text, script.IsLine(text))
}

func (s *sheet) quoted(text string) {
	s.WriteString(quote)
	s.put(text, !strings.ContainsAny(text, quote+lineEnd))
	s.WriteString(quote)
}

// item writes a provision that is put, as if the line ahead of it were a law that has it alone.
func (s *sheet) item(it api.Item) error {
	form, err := script.Write(api.Item{Kids: []api.Item{it}})
	if errors.Is(err, api.ErrName) {
		return api.ErrText
	}
	if err != nil {
		return err
	}
	_, rows, _ := strings.Cut(form, lineEnd)
	for row := range strings.Lines(rows) {
		s.WriteString(indent + row)
	}
	return nil
}
