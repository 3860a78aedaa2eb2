package amend

import (
	"strconv"
	"strings"

	"statute/api"
	"statute/day"
	"statute/script"
)

// What stands in an act's lines.
const (
	lineEnd     = "\n"
	indent      = "  "
	actWord     = "act "
	madeWord    = " made "
	fromWord    = " from "
	untilWord   = " until "
	ofWord      = " of "
	toWord      = " to "
	behindWord  = " behind "
	becomesWord = " becomes "
	lawWord     = "law"
	noTextMark  = ":"
	textMark    = ": "
	quote       = `"`
)

// changeWord is what a change of a kind begins with; none begins like another one.
var changeWord = [...]string{
	api.OHead:   "head ",
	api.OLine:   "line ",
	api.OAdd:    "add ",
	api.ODrop:   "drop ",
	api.OWords:  "words of ",
	api.OPut:    "put in ",
	api.ORepeal: "repeal ",
	api.OLabel:  "label ",
	api.OMove:   "move ",
}

// maxDigits is how many digits a line's number has at most.
const maxDigits = 4

// cursor goes through an act's line. Once it is wrong it stays so: that is asked at the end.
type cursor struct {
	rest  string
	wrong bool
}

// isOver tells whether nothing is left, and nothing was wrong.
func (c *cursor) isOver() bool { return !c.wrong && c.rest == "" }

// has takes a text, if it stands there.
func (c *cursor) has(text string) bool {
	rest, begins := strings.CutPrefix(c.rest, text)
	c.rest = rest
	return begins
}

// take takes a text that must stand there.
func (c *cursor) take(text string) { c.must(c.has(text)) }

func (c *cursor) must(right bool) { c.wrong = c.wrong || !right }

// word takes what stands ahead of the next blank or mark.
func (c *cursor) word() string {
	end := strings.IndexAny(c.rest, " :")
	if end < 0 {
		end = len(c.rest)
	}
	word := c.rest[:end]
	c.rest = c.rest[end:]
	return word
}

func (c *cursor) name() string {
	name := c.word()
	c.must(IsName(name))
	return name
}

func (c *cursor) day() int {
	d, err := day.Read(c.word())
	c.must(err == nil)
	return d
}

func (c *cursor) number() int {
	digits := c.word()
	n, err := strconv.Atoi(digits)
	// A sign, zeros ahead: such a number is written in another way.
	c.must(err == nil && len(digits) <= maxDigits && strconv.Itoa(n) == digits && n >= 0)
	return n
}

func (c *cursor) label() string {
	label := c.word()
	c.must(script.IsLabel(label))
	return label
}

// path takes a path; the law's has a word of its own.
func (c *cursor) path() string {
	path := c.word()
	if path == lawWord {
		return ""
	}
	c.must(isPath(path))
	return path
}

// behind takes the label behind which something comes, if there is one.
func (c *cursor) behind() string {
	if !c.has(behindWord) {
		return ""
	}
	return c.label()
}

// text takes the rest, which is a mark and a text.
func (c *cursor) text() string {
	if c.rest == noTextMark {
		c.rest = ""
		return ""
	}
	c.take(textMark)
	text := c.rest
	c.rest = ""
	c.must(text != "" && script.IsLine(text))
	return text
}

// quoted takes a text between quotes.
func (c *cursor) quoted() string {
	c.take(quote)
	text, rest, closed := strings.Cut(c.rest, quote)
	c.must(closed)
	c.rest = rest
	return text
}
