package coin

import (
	"math"
	"slices"
	"testing"

	"statute/api"
)

func TestP13ShareByWeights(t *testing.T) {
	for _, c := range []struct {
		total         int
		weights, want []int
	}{
		{100, []int{1, 1, 1}, []int{34, 33, 33}},
		{101, []int{1, 1, 1}, []int{34, 34, 33}},
		{100, []int{50, 30, 20}, []int{50, 30, 20}},
		{1, []int{1, 1}, []int{1, 0}},
		{1, []int{1, 2}, []int{0, 1}},
		{2, []int{1, 0, 1, 1}, []int{1, 0, 1, 0}},
		{5, []int{0, 7, 0}, []int{0, 5, 0}},
		{7, []int{2, 3, 2, 3}, []int{2, 2, 1, 2}},
		{0, []int{3, 4}, []int{0, 0}},
		{-100, []int{1, 1, 1}, []int{-34, -33, -33}},
		{-1, []int{1, 2}, []int{0, -1}},
		{-7, []int{2, 3, 2, 3}, []int{-2, -2, -1, -2}},
		{api.MaxCoin, []int{api.MaxRate, api.MaxRate}, []int{api.MaxCoin / 2, api.MaxCoin / 2}},
		{-api.MaxCoin, []int{api.MaxRate}, []int{-api.MaxCoin}},
	} {
		if l, err := Share(c.total, c.weights); err != nil || !slices.Equal(l, c.want) {
			t.Errorf("Share(%d, %v): %v, %v; want %v", c.total, c.weights, l, err, c.want)
		}
	}
}

// centsOneByOne shares as the document tells it, one cent at a time.
func centsOneByOne(total int, weights []int) []int {
	if total < 0 {
		l := centsOneByOne(-total, weights)
		for i := range l {
			l[i] = -l[i]
		}
		return l
	}
	all, left := 0, total
	for _, w := range weights {
		all += w
	}
	parts, had := make([]int, len(weights)), make([]bool, len(weights))
	for i, w := range weights {
		parts[i] = total * w / all
		left -= parts[i]
	}
	for ; left > 0; left-- {
		best := -1
		for i, w := range weights {
			if !had[i] && (best < 0 || total*w%all > total*weights[best]%all) {
				best = i
			}
		}
		had[best] = true
		parts[best]++
	}
	return parts
}

func TestP13ShareCentByCent(t *testing.T) {
	lists := [][]int{{1}, {0, 1}, {api.MaxRate, 1}, {1, api.MaxRate, 0, api.MaxRate - 1}, {3, 1, 4, 1, 5, 9, 2, 6, 5, 3, 5}, {7, 7, 7, 7, 7, 7, 7}, {1, 2, 3, 4, 5, 6}}
	most := make([]int, api.MaxRows)
	for i := range most {
		most[i] = (i*i*7919 + 13) % api.MaxRate
	}
	lists = append(lists, most, slices.Repeat([]int{api.MaxRate}, api.MaxRows))
	for _, weights := range lists {
		for _, base := range []int{0, 50, 1000, 999999937, api.MaxCoin - 40} {
			for more := range 41 {
				for _, total := range []int{base + more, -base - more} {
					l, err := Share(total, weights)
					if err != nil || !slices.Equal(l, centsOneByOne(total, weights)) {
						t.Errorf("Share(%d, %v): %v, %v", total, weights, l, err)
					}
					if sum(l) != total {
						t.Errorf("Share(%d, %v): %v are not all of it", total, weights, l)
					}
				}
			}
		}
	}
}

func TestP13ShareRefuses(t *testing.T) {
	for _, c := range []struct {
		total   int
		weights []int
		err     error
	}{
		{5, make([]int, api.MaxRows+1), api.ErrBound}, {math.MinInt, slices.Repeat([]int{-1}, api.MaxRows+1), api.ErrBound},
		{api.MaxCoin + 1, []int{1}, api.ErrCoin}, {-api.MaxCoin - 1, []int{1}, api.ErrCoin}, {math.MaxInt, []int{1}, api.ErrCoin}, {math.MinInt, []int{1}, api.ErrCoin},
		{5, []int{1, -1}, api.ErrCoin}, {5, []int{2, -1}, api.ErrCoin}, {5, []int{1, api.MaxRate + 1}, api.ErrCoin}, {5, []int{math.MinInt, math.MaxInt}, api.ErrCoin},
		{5, nil, api.ErrCoin}, {5, []int{}, api.ErrCoin}, {0, nil, api.ErrCoin}, {5, []int{0}, api.ErrCoin}, {0, make([]int, api.MaxRows), api.ErrCoin},
	} {
		if l, err := Share(c.total, c.weights); l != nil || err != c.err {
			t.Errorf("Share(%d, %v): %v, %v; want %v", c.total, c.weights, l, err, c.err)
		}
	}
}

func TestP4ShareReadsAndAnswersAnew(t *testing.T) {
	weights := []int{1, 2, 4}
	first, _ := Share(-100, weights)
	second, err := Share(-100, weights)
	for i := range first {
		first[i] = 1
	}
	if err != nil || !slices.Equal(second, []int{-14, -29, -57}) {
		t.Errorf("what was written into one answer is seen in another one: %v, %v", second, err)
	}
	if !slices.Equal(weights, []int{1, 2, 4}) {
		t.Errorf("the weights became %v", weights)
	}
}
