package script

import (
	"slices"

	"statute/api"
	"statute/tree"
)

// Copy of an item, in new memory.
func Copy(it api.Item) api.Item { return shape().Copy(it) }

// shape of items. Of what can't be copied whole there is more in a copy than in a law that is right.
func shape() tree.Shape[api.Item] {
	return tree.Shape[api.Item]{
		Kids: func(it *api.Item) *[]api.Item { return &it.Kids },
		Own:  func(it *api.Item) { it.Lines = slices.Clone(it.Lines) },
		Part: 2 * api.MaxItems,
	}
}
