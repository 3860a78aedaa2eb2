package script

import (
	"slices"

	"statute/api"
)

// Valid law?
func Valid(l api.Item) error {
	var c check
	return c.item(l, 0, nil)
}

// check is how far a law was looked at.
type check struct {
	count int // provisions so far
}

// item is what is wrong with an item so deep in the law, behind siblings, or with what lies in it.
func (c *check) item(it api.Item, deep int, ahead []api.Item) error {
	if deep > api.MaxDeep || c.count > api.MaxItems || isTooGreat(it) {
		return api.ErrBound
	}
	if !hasRightLabel(it, deep, ahead) {
		return api.ErrName
	}
	if !IsLine(it.Head) || !allLines(it.Lines) {
		return api.ErrText
	}
	for i, kid := range it.Kids {
		c.count++
		if err := c.item(kid, deep+1, it.Kids[:i]); err != nil {
			return err
		}
	}
	return nil
}

// isTooGreat tells whether an item has too many lines or a text that is too long.
func isTooGreat(it api.Item) bool {
	return len(it.Lines) > api.MaxLines || isTooLong(it.Head) || slices.ContainsFunc(it.Lines, isTooLong)
}

func isTooLong(text string) bool { return len(text) > api.MaxLine }

// hasRightLabel tells whether an item's label may stand there; the law is the item that lies in nothing.
func hasRightLabel(it api.Item, deep int, ahead []api.Item) bool {
	if deep == 0 {
		return it.Label == ""
	}
	return IsLabel(it.Label) && labelled(ahead, it.Label) < 0
}

func allLines(texts []string) bool {
	return !slices.ContainsFunc(texts, func(text string) bool { return !IsLine(text) })
}
