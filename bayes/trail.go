package bayes

import (
	"slices"

	"turndown/api"
)

// members say of each variable whether it belongs to a set.
type members [api.MaxVariables]bool

// toMembers also reports whether list is a list of different variables.
func toMembers(list []int, count int) (members, bool) {
	var m members
	for _, v := range list {
		if !isVariable(v, count) || m[v] {
			return members{}, false
		}
		m[v] = true
	}
	return m, true
}

// A web has the edges of a network, and what a set of variables does to the
// trails along them.
type web struct {
	count  int
	parent [api.MaxVariables]members // parent[v][p]: p is a parent of v
	given  members                   // the set
	opened members                   // those in the set, or with a descendant in it
}

func newWeb(n api.Network, given members) web {
	w := web{count: len(n.Parents), given: given, opened: given}
	// Parents have smaller numbers than their children, so that one pass from
	// the last variable to the first one reaches all ancestors.
	for v := w.count - 1; v >= 0; v-- {
		for _, p := range n.Parents[v] {
			w.parent[v][p] = true
			if w.opened[v] {
				w.opened[p] = true
			}
		}
	}
	return w
}

func (w web) adjacent(v, u int) bool {
	return w.parent[v][u] || w.parent[u][v]
}

func (w web) isTrail(list []int) bool {
	if _, ok := toMembers(list, w.count); !ok {
		return false
	}
	for i := 1; i < len(list); i++ {
		if !w.adjacent(list[i-1], list[i]) {
			return false
		}
	}
	return true
}

// passes reports whether a trail stays active when it goes from before
// through v to after.
func (w web) passes(before, v, after int) bool {
	if w.parent[v][before] && w.parent[v][after] {
		return w.opened[v]
	}
	return !w.given[v]
}

func (w web) isActive(trail []int) bool {
	for i := 2; i < len(trail); i++ {
		if !w.passes(trail[i-2], trail[i-1], trail[i]) {
			return false
		}
	}
	return true
}

// find returns an active trail from x to y, or an empty list if there is
// none. It tries the trails themselves: a search that marks variables as
// visited can find a way that passes one twice, which is not a trail.
func (w web) find(x, y int) []int {
	trail := []int{x}
	var extend func() bool
	extend = func() bool {
		size := len(trail)
		last := trail[size-1]
		if last == y {
			return true
		}
		for next := range w.count {
			if !w.adjacent(last, next) || slices.Contains(trail, next) {
				continue
			}
			if size > 1 && !w.passes(trail[size-2], last, next) {
				continue
			}
			trail = append(trail, next)
			if extend() {
				return true
			}
			trail = trail[:size]
		}
		return false
	}
	if !extend() {
		return nil
	}
	return trail
}
