// Package order brings things that stand ahead of others in an order, for the packages above.
package order

// Of things, which are numbers from 0 on, by pairs of them of which the first stands ahead of the second: all in such an order; false: there is none, as one stands ahead of itself, by way of others or not.
func Of(things int, pairs [][2]int) ([]int, bool) {
	left := make([]int, things) // how many that stand ahead of one have no place yet
	behind := make([][]int, things)
	for _, pair := range pairs {
		left[pair[1]]++
		behind[pair[0]] = append(behind[pair[0]], pair[1])
	}
	var all []int
	add := func(thing int) {
		if left[thing] == 0 {
			all = append(all, thing)
		}
	}
	for thing := range things {
		add(thing)
	}
	for next := 0; next < len(all); next++ {
		for _, thing := range behind[all[next]] {
			left[thing]--
			add(thing)
		}
	}
	if len(all) < things {
		return nil, false
	}
	return all, true
}
