package coin

import (
	"cmp"
	"slices"

	"statute/api"
)

// Share a total by weights.
func Share(total int, weights []int) ([]int, error) {
	if len(weights) > api.MaxRows {
		return nil, api.ErrBound
	}
	wrong := func(w int) bool { return !upTo(w, api.MaxRate) }
	if !IsAmount(total) || slices.ContainsFunc(weights, wrong) {
		return nil, api.ErrCoin
	}
	all := sum(weights)
	if all == 0 {
		return nil, api.ErrCoin
	}
	if total >= 0 {
		return shared(total, weights, all), nil
	}
	parts := shared(-total, weights, all)
	for i := range parts {
		parts[i] = -parts[i]
	}
	return parts, nil
}

// shared is a total that is not below 0 in parts by weights, which are all together.
func shared(total int, weights []int, all int) []int {
	parts := make([]int, len(weights))
	took := make([]int, len(weights))
	for i, w := range weights {
		parts[i], took[i] = total*w/all, total*w%all
	}
	// What is left is less than how many roundings took something, so there are turns enough.
	left := total - sum(parts)
	for _, i := range greatestFirst(took)[:left] {
		parts[i]++
	}
	return parts
}

// greatestFirst is the places of a list, those of greater numbers ahead, of equal ones the earlier ahead.
func greatestFirst(l []int) []int {
	places := make([]int, len(l))
	for i := range places {
		places[i] = i
	}
	slices.SortStableFunc(places, func(a, b int) int { return cmp.Compare(l[b], l[a]) })
	return places
}

func sum(l []int) int {
	n := 0
	for _, x := range l {
		n += x
	}
	return n
}
