package coin

import "statute/api"

// fullRate is the rate that is all of an amount.
const fullRate = 10000

// IsWay tells whether package api has such a way of rounding.
func IsWay(way int) bool { return api.Down <= way && way <= api.HalfEven }

// rounded is n over parts (which is above 0), by a way of package api.
func rounded(n, parts, way int) int {
	near, rest := n/parts, n%parts
	if rest == 0 {
		return near
	}
	step := 1
	if rest < 0 {
		step = -1
	}
	if leavesZero(near, rest*step, parts, step, way) {
		return near + step
	}
	return near
}

// leavesZero tells whether a way takes the number farther from 0 of the two around near and rest over parts; rest is told without its sign, which is step.
func leavesZero(near, rest, parts, step, way int) bool {
	// Twice the rest could be too great a number.
	other := parts - rest
	switch way {
	case api.Up:
		return true
	case api.Floor:
		return step < 0
	case api.Ceil:
		return step > 0
	case api.HalfUp:
		return rest >= other
	case api.HalfEven:
		return rest > other || rest == other && near%2 != 0
	}
	return false
}
