package amend

import (
	"slices"
	"strings"

	"statute/api"
)

// What of a provision a change touches.
const (
	headingPart = iota
	linesPart
	kidsPart
	allParts
)

// thing is what a change touches: a part of the provision at a path.
type thing struct {
	part int
	path string
}

// Apart: whether nothing that is touched by one of two lists of changes meets what the other one touches.
func Apart(a, b []api.Op) bool {
	others := touchedBy(b)
	for _, x := range touchedBy(a) {
		if slices.ContainsFunc(others, x.meets) {
			return false
		}
	}
	return true
}

// meets tells whether what is done to a thing may show in another one.
func (x thing) meets(y thing) bool {
	return x == y || x.holds(y) || y.holds(x)
}

// holds tells whether a thing is all at a path, and another one is there, too, or in it.
func (x thing) holds(y thing) bool {
	rest, begins := strings.CutPrefix(y.path, x.path)
	return x.part == allParts && begins && (x.path == "" || rest == "" || strings.HasPrefix(rest, pathMark))
}

// touchedBy is all that changes touch.
func touchedBy(ops []api.Op) []thing {
	var all []thing
	for _, o := range ops {
		all = append(all, touched(o)...)
	}
	return all
}

// touched is what a change touches; of a kind that is none nothing.
func touched(o api.Op) []thing {
	outer, label := split(o.Path)
	switch o.Kind {
	case api.OHead:
		return []thing{{headingPart, o.Path}}
	case api.OLine, api.OAdd, api.ODrop, api.OWords:
		return []thing{{linesPart, o.Path}}
	case api.OPut:
		return []thing{{kidsPart, o.Path}, {allParts, join(o.Path, o.Item.Label)}}
	case api.ORepeal:
		return []thing{{kidsPart, outer}, {allParts, o.Path}}
	case api.OLabel:
		return []thing{{kidsPart, outer}, {allParts, o.Path}, {allParts, join(outer, o.Text)}}
	case api.OMove:
		return []thing{{kidsPart, outer}, {allParts, o.Path}, {kidsPart, o.New}, {allParts, join(o.New, label)}}
	}
	return nil
}
