package amend

import (
	"slices"

	"statute/api"
)

// manyTexts is told of texts that differ by more changes than one.
const manyTexts = 2

// textCost is how many changes make the texts of one tree those of another one; at most manyTexts.
func textCost(x, y *tree) int {
	if x.texts == y.texts {
		return 0
	}
	sameHead, sameLines := x.item.Head == y.item.Head, slices.Equal(x.item.Lines, y.item.Lines)
	if sameLines || sameHead && differByOne(x.item.Lines, y.item.Lines) {
		return 1
	}
	return manyTexts
}

// differByOne tells whether one change makes lines of other ones: but for those that both begin and end with, each has one at most.
func differByOne(old, young []string) bool {
	for len(old) > 0 && len(young) > 0 && old[0] == young[0] {
		old, young = old[1:], young[1:]
	}
	for len(old) > 0 && len(young) > 0 && old[len(old)-1] == young[len(young)-1] {
		old, young = old[:len(old)-1], young[:len(young)-1]
	}
	return len(old) <= 1 && len(young) <= 1
}

// pairLines pairs lines that stay, or become others, so that the fewest changes do.
func pairLines(old, young []string) []pair {
	pairs, _ := align(len(old), len(young), func(i, k int) int {
		if old[i] == young[k] {
			return 2
		}
		return 1
	})
	return pairs
}

// textChanges change the heading and the lines of the item at a path. What is dropped goes first, from the last one up, so that there are never too many; what is added comes last, from the first one down: so all numbers are right when they are told.
func textChanges(path string, old, young api.Item) []api.Op {
	var ops []api.Op
	if old.Head != young.Head {
		ops = append(ops, api.Op{Kind: api.OHead, Path: path, Text: young.Head})
	}
	pairs := pairLines(old.Lines, young.Lines)
	for i := len(old.Lines) - 1; i >= 0; i-- {
		if !slices.ContainsFunc(pairs, func(x pair) bool { return x.from == i }) {
			ops = append(ops, api.Op{Kind: api.ODrop, Path: path, Line: i})
		}
	}
	for i, x := range pairs {
		if old.Lines[x.from] != young.Lines[x.to] {
			ops = append(ops, api.Op{Kind: api.OLine, Path: path, Line: i, Text: young.Lines[x.to]})
		}
	}
	for k, text := range young.Lines {
		if !slices.ContainsFunc(pairs, func(x pair) bool { return x.to == k }) {
			ops = append(ops, api.Op{Kind: api.OAdd, Path: path, Line: k, Text: text})
		}
	}
	return ops
}
