package tree

import "iter"

// Once goes through a tree, each node ahead of its kids: of nodes that are one in memory, and have kids, through one.
func Once[T any](t *T, kids func(n *T) []T) iter.Seq[*T] {
	return func(yield func(n *T) bool) {
		met := map[*T]int{}
		open := [][]T{}
		enter := func(n *T) bool {
			if list := kids(n); len(list) > 0 && met[n] == 0 {
				met[n]++
				open = append(open, list)
			}
			return yield(n)
		}
		for more := enter(t); more && len(open) > 0; {
			last := len(open) - 1
			list := open[last]
			if len(list) == 1 {
				open = open[:last]
			} else {
				open[last] = list[1:]
			}
			more = enter(&list[0])
		}
	}
}
