package order

import (
	"math/rand"
	"slices"
	"testing"
)

// aheadOfItself tells whether one of some things stands ahead of itself, by way of others or not.
func aheadOfItself(things int, pairs [][2]int) bool {
	for thing := range things {
		met := []int{thing}
		for i := 0; i < len(met); i++ {
			for _, pair := range pairs {
				if pair[0] != met[i] {
					continue
				}
				if pair[1] == thing {
					return true
				}
				if !slices.Contains(met, pair[1]) {
					met = append(met, pair[1])
				}
			}
		}
	}
	return false
}

// check that things come in an order, or that there is none.
func check(t *testing.T, things int, pairs [][2]int) {
	t.Helper()
	all, ok := Of(things, pairs)
	if ok == aheadOfItself(things, pairs) || !ok && all != nil {
		t.Fatalf("%d things, %v: %v, %v", things, pairs, all, ok)
	}
	if !ok {
		return
	}
	for thing := range things {
		if !slices.Contains(all, thing) || len(all) != things {
			t.Fatalf("%d things, %v: %v", things, pairs, all)
		}
	}
	for _, pair := range pairs {
		if slices.Index(all, pair[0]) >= slices.Index(all, pair[1]) {
			t.Fatalf("%d things, %v: %v", things, pairs, all)
		}
	}
}

func TestOf(t *testing.T) {
	check(t, 0, nil)
	check(t, 1, nil)
	check(t, 1, [][2]int{{0, 0}})
	check(t, 2, [][2]int{{1, 0}, {1, 0}})
	check(t, 3, [][2]int{{0, 1}, {1, 2}, {2, 0}})
	r := rand.New(rand.NewSource(1))
	for range 2000 {
		things := 1 + r.Intn(6)
		var pairs [][2]int
		for range r.Intn(8) {
			pairs = append(pairs, [2]int{r.Intn(things), r.Intn(things)})
		}
		check(t, things, pairs)
	}
}
