package script

import (
	"slices"

	"statute/api"
	"statute/tree"
)

// maxWhole is how many provisions and lines are copied whole: as many as there is room for in memory.
const maxWhole = 1 << 26

// Copy of an item, in new memory.
func Copy(it api.Item) api.Item { return shape().Copy(it) }

// shape of items. Of what can't be copied whole there is more in a copy than in a law that is right.
func shape() tree.Shape[api.Item] {
	return tree.Shape[api.Item]{
		Kids:   func(it *api.Item) *[]api.Item { return &it.Kids },
		Own:    func(it *api.Item) { it.Lines = slices.Clone(it.Lines) },
		Weight: weight,
		Whole:  maxWhole,
		Part:   2 * api.MaxItems,
	}
}

// weight of a provision without its kids: its lines count, as a copy has them, too.
func weight(it *api.Item) int { return 1 + len(it.Lines) }
