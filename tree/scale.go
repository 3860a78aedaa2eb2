package tree

// Scale weighs trees. What it weighed once it knows: until it is done they must stay as they are.
type Scale[T any] struct {
	shape Shape[T]
	known map[*T]int // weights of trees, by their first nodes
}

// Scale for trees of a shape.
func (s Shape[T]) Scale() *Scale[T] { return &Scale[T]{shape: s, known: map[*T]int{}} }

// branch is a tree that is being weighed.
type branch[T any] struct {
	node *T
	left []T // kids that were not weighed
	sum  int // of what was
}

// Weigh a tree: more than can be copied whole, if it has no end.
func (s *Scale[T]) Weigh(t *T) int {
	if weight, is := s.told(t); is {
		return weight
	}
	open := []branch[T]{s.begin(t)}
	for {
		top := &open[len(open)-1]
		if len(top.left) == 0 {
			sum := top.sum
			s.known[top.node] = sum
			open = open[:len(open)-1]
			if len(open) == 0 {
				return sum
			}
			s.add(&open[len(open)-1], sum)
			continue
		}
		kid := &top.left[0]
		top.left = top.left[1:]
		if weight, is := s.told(kid); is {
			s.add(top, weight)
		} else {
			open = append(open, s.begin(kid))
		}
	}
}

// tooMuch is the weight of all that is too heavy to be copied whole.
func (s *Scale[T]) tooMuch() int { return s.shape.Whole + 1 }

// told is the weight of a tree; false: it has to be weighed.
func (s *Scale[T]) told(t *T) (int, bool) {
	if len(*s.shape.Kids(t)) == 0 {
		return min(s.shape.Weight(t), s.tooMuch()), true
	}
	weight, is := s.known[t]
	return weight, is
}

// begin to weigh a tree. If it is met in itself, it has no end: until it was weighed it is too heavy.
func (s *Scale[T]) begin(t *T) branch[T] {
	s.known[t] = s.tooMuch()
	return branch[T]{node: t, left: *s.shape.Kids(t), sum: min(s.shape.Weight(t), s.tooMuch())}
}

// add a kid's weight. What is too heavy stays so: the other kids need not be weighed.
func (s *Scale[T]) add(b *branch[T], weight int) {
	b.sum = min(b.sum+weight, s.tooMuch())
	if b.sum == s.tooMuch() {
		b.left = nil
	}
}
