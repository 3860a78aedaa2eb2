package amend

import (
	"slices"
	"strings"

	"statute/api"
)

// pathMark stands between two labels of a path.
const pathMark = "/"

// labelsOf are the labels of a path; the law's has none.
func labelsOf(path string) []string {
	if path == "" {
		return nil
	}
	return strings.Split(path, pathMark)
}

// split is the path around a path, and its last label.
func split(path string) (outer, label string) {
	at := strings.LastIndex(path, pathMark)
	if at < 0 {
		return "", path
	}
	return path[:at], path[at+len(pathMark):]
}

// join is the path of a kid.
func join(path, label string) string {
	if path == "" {
		return label
	}
	return path + pathMark + label
}

// lies tells whether a path is another one, or leads into it.
func lies(path, outer []string) bool {
	return len(path) >= len(outer) && slices.Equal(path[:len(outer)], outer)
}

// find is the provision at a path; nil: there is none.
func find(l *api.Item, path []string) *api.Item {
	for _, label := range path {
		at := labelled(l.Kids, label)
		if at < 0 {
			return nil
		}
		l = &l.Kids[at]
	}
	return l
}

// around is the item in which the provision at a path lies, and its number there; nil: there is none, or it is the law.
func around(l *api.Item, path []string) (*api.Item, int) {
	if len(path) == 0 {
		return nil, 0
	}
	last := len(path) - 1
	outer := find(l, path[:last])
	if outer == nil {
		return nil, 0
	}
	at := labelled(outer.Kids, path[last])
	if at < 0 {
		return nil, 0
	}
	return outer, at
}

// labelled is the number of the item with a label; -1: none has it.
func labelled(items []api.Item, label string) int {
	return slices.IndexFunc(items, func(it api.Item) bool { return it.Label == label })
}

// behind is the number that one more item would have behind the one with a label, or, without a label, ahead of all; -1: none has it.
func behind(items []api.Item, label string) int {
	if label == "" {
		return 0
	}
	at := labelled(items, label)
	if at < 0 {
		return -1
	}
	return at + 1
}
