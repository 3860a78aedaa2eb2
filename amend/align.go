package amend

import "sort"

// pair is an element of one list, and one of another.
type pair struct{ from, to int }

// align pairs elements of a list of n with those of a list of m, in the order of both, so that all pairs together gain the most; it tells how much. What gains nothing is no pair.
func align(n, m int, gain func(from, to int) int) ([]pair, int) {
	best := bestGains(n, m, gain)
	var pairs []pair
	for i, k := 0, 0; i < n && k < m; {
		switch best[i][k] {
		case best[i+1][k]:
			i++
		case best[i][k+1]:
			k++
		default:
			pairs = append(pairs, pair{i, k})
			i, k = i+1, k+1
		}
	}
	return pairs, best[0][0]
}

// bestGains is, for each two places in two lists, what can be gained from there on.
func bestGains(n, m int, gain func(from, to int) int) [][]int {
	best := make([][]int, n+1)
	for i := range best {
		best[i] = make([]int, m+1)
	}
	for i := n - 1; i >= 0; i-- {
		for k := m - 1; k >= 0; k-- {
			best[i][k] = max(best[i+1][k], best[i][k+1], best[i+1][k+1]+gain(i, k))
		}
	}
	return best
}

// rising is a longest list of numbers of elements, rising, whose values rise; all values are different.
func rising(n int, value func(i int) int) []int {
	var ends []int // for each length, the last element of a list that long: the one with the least value
	ahead := make([]int, n)
	for i := range n {
		at := sort.Search(len(ends), func(k int) bool { return value(ends[k]) > value(i) })
		ahead[i] = -1
		if at > 0 {
			ahead[i] = ends[at-1]
		}
		if at == len(ends) {
			ends = append(ends, i)
		}
		ends[at] = i
	}
	list := make([]int, len(ends))
	if n == 0 {
		return list
	}
	for k, i := len(ends)-1, ends[len(ends)-1]; k >= 0; k, i = k-1, ahead[i] {
		list[k] = i
	}
	return list
}
