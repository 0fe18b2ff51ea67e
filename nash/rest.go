package nash

// rest returns the acts of both sides that remain if dominated ones are
// removed until there are none.
func (g game) rest() [2]set {
	left := [2]set{upTo(g[0].acts), upTo(g[1].acts)}
	for before := [2]set{}; before != left; {
		before = left
		for k, s := range g {
			for act := range s.acts {
				if s.isDominated(act, left[k], left[1-k]) {
					left[k] = left[k].without(act)
				}
			}
		}
	}
	return left
}

func (s side) isDominated(act int, own, others set) bool {
	for k := range s.acts {
		if own.has(k) && s.dominates(k, act, others) {
			return true
		}
	}
	return false
}

// dominates reports whether k gains more than act against each of the others.
// There always are some, as a best act against any of them is not dominated.
func (s side) dominates(k, act int, others set) bool {
	for j, number := range s.pay[act] {
		if others.has(j) && number >= s.pay[k][j] {
			return false
		}
	}
	return true
}
