package locks

// A search looks for chambers among some colourings, of which it knows the
// pairs that they stop. It tries them in the order of the list, as that of a
// map changes from call to call.
type search struct {
	list  []colouring
	stops map[colouring]pairs
}

func newSearch(p plan, d int) search {
	s := search{colourings(p.keys, d), map[colouring]pairs{}}
	for _, x := range s.list {
		s.stops[x] = p.stopped(x)
	}
	return s
}

// cover returns at most c chambers that together stop all pairs that are
// left, and whether there are any.
func (s search) cover(left pairs, c int) ([]colouring, bool) {
	if left == 0 {
		return nil, true
	}
	if c == 0 {
		return nil, false
	}
	for _, x := range s.list {
		if s.stops[x]&left.first() == 0 {
			continue
		}
		if chambers, ok := s.cover(left&^s.stops[x], c-1); ok {
			return append(chambers, x), true
		}
	}
	return nil, false
}
