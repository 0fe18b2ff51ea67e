package locks

import (
	"slices"

	"turndown/api"
)

// A plan says which keys are meant to open which locks.
type plan struct {
	keys, locks int
	meant       pairs
}

// toPlan also reports whether the lists are an access plan. It tests their
// lengths first, so that lists of any length are rejected without being read.
func toPlan(access [][]int) (plan, bool) {
	if !isFromOneTo(api.MaxKeys, len(access)) || !isFromOneTo(api.MaxLocks, len(access[0])) {
		return plan{}, false
	}
	p := plan{keys: len(access), locks: len(access[0])}
	for key, row := range access {
		if len(row) != p.locks {
			return plan{}, false
		}
		for lock, number := range row {
			if number != 0 && number != 1 {
				return plan{}, false
			}
			if number == 1 {
				p.meant |= pair(key, lock)
			}
		}
	}
	return p, true
}

func isFromOneTo(limit, number int) bool { return 1 <= number && number <= limit }

// forbidden returns the pairs of which the key is not meant to open the lock.
func (p plan) forbidden() pairs {
	var all pairs
	for key := range p.keys {
		for lock := range p.locks {
			all |= pair(key, lock)
		}
	}
	return all &^ p.meant
}

// stopped returns the pairs of which the key does not fit into the lock in a
// chamber of this colouring. They are all forbidden.
func (p plan) stopped(x colouring) pairs {
	var out pairs
	for lock := range p.locks {
	keys:
		for key := range p.keys {
			for other := range p.keys {
				if p.meant.has(other, lock) && x[other] == x[key] {
					continue keys // The lock has a pin for the key.
				}
			}
			out |= pair(key, lock)
		}
	}
	return out
}

// pins returns how many different pins the lock has in a chamber of this
// colouring.
func (p plan) pins(x colouring, lock int) int {
	seen := map[int]bool{}
	for key := range p.keys {
		if p.meant.has(key, lock) {
			seen[x[key]] = true
		}
	}
	return len(seen)
}

// wrong returns the forbidden pairs of which the key opens the lock.
func (p plan) wrong(chambers []colouring) pairs {
	left := p.forbidden()
	for _, x := range chambers {
		left &^= p.stopped(x)
	}
	return left
}

// cuts returns the keys with these chambers and further ones, up to c of
// them, in which all keys have the same depth.
func (p plan) cuts(chambers []colouring, c int) [][]int {
	list := make([][]int, p.keys)
	for key := range list {
		list[key] = slices.Repeat([]int{1}, c)
		for n, x := range chambers {
			list[key][n] = x[key]
		}
	}
	return list
}

// toSystem also reports whether access is an access plan and cuts are cuts
// for its keys with depths from 1 to d, of which it returns the chambers.
func toSystem(access, cuts [][]int, d int) (plan, []colouring, bool) {
	p, ok := toPlan(access)
	if !ok || !isFromOneTo(api.MaxDepths, d) || len(cuts) != p.keys || !isFromOneTo(api.MaxChambers, len(cuts[0])) {
		return plan{}, nil, false
	}
	chambers := make([]colouring, len(cuts[0]))
	for key, row := range cuts {
		if len(row) != len(chambers) {
			return plan{}, nil, false
		}
		for n, depth := range row {
			if !isFromOneTo(d, depth) {
				return plan{}, nil, false
			}
			chambers[n][key] = depth
		}
	}
	return p, chambers, true
}
