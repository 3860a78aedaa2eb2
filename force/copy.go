package force

import (
	"slices"

	"statute/api"
)

// copyAct is an act in new memory.
func copyAct(a api.Act) api.Act {
	a.Ops = slices.Clone(a.Ops)
	for i := range a.Ops {
		c := copier{left: api.MaxItems}
		a.Ops[i].Item = c.item(a.Ops[i].Item, 1)
	}
	return a
}

// copier copies a provision that is to be put, as far as it can matter. Nobody has looked at it: it may be without an end, as a list can lie within itself. But what is told of it is told at the latest where there is one provision too many, or one too deep: what is behind that, or in it, is left out.
type copier struct{ left int }

func (c *copier) item(it api.Item, deep int) api.Item {
	it.Lines = slices.Clone(it.Lines)
	kids := it.Kids
	it.Kids = nil
	if deep > api.MaxDeep {
		return it
	}
	for _, kid := range kids {
		if c.left == 0 {
			break
		}
		c.left--
		it.Kids = append(it.Kids, c.item(kid, deep+1))
	}
	return it
}
