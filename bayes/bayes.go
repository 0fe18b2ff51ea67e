// Package bayes computes exact probabilities in small networks of yes-or-no
// variables, and decides which of them can influence each other. It is layer
// 1: see shared/doc/01-bayes.md.
package bayes

import (
	"turndown/api"
	"turndown/frac"
)

// Joint returns the probability of an assignment of values to all variables.
// ErrArg: n is not a network, or values does not have one value for each
// variable.
func Joint(n api.Network, values []int) (api.Frac, api.Errno) {
	if !isNetwork(n) {
		return api.Frac{}, api.ErrArg
	}
	a, ok := toAssignment(values, len(n.Parents))
	if !ok {
		return api.Frac{}, api.ErrArg
	}
	return frac.New(weight(n, a), fullWeight(n)), api.OK
}

// Chance returns the probability that asked and given both hold, divided by
// that of given. ErrArg: n is not a network, or asked or given are not facts.
// ErrNone: the probability of given is 0.
func Chance(n api.Network, asked, given [][2]int) (api.Frac, api.Errno) {
	if !isNetwork(n) {
		return api.Frac{}, api.ErrArg
	}
	question, questionOK := toFacts(asked, len(n.Parents))
	known, knownOK := toFacts(given, len(n.Parents))
	if !questionOK || !knownOK {
		return api.Frac{}, api.ErrArg
	}
	whole := factsWeight(n, known)
	if whole == 0 {
		return api.Frac{}, api.ErrNone
	}
	both, ok := question.join(known)
	if !ok {
		return frac.New(0, whole), api.OK
	}
	return frac.New(factsWeight(n, both), whole), api.OK
}

// Likely returns the lexicographically smallest one of the assignments of the
// greatest probability among those that agree with given, and its
// probability. ErrArg: n is not a network, or given are not facts. ErrNone:
// the probability of given is 0.
func Likely(n api.Network, given [][2]int) ([]int, api.Frac, api.Errno) {
	if !isNetwork(n) {
		return nil, api.Frac{}, api.ErrArg
	}
	count := len(n.Parents)
	known, ok := toFacts(given, count)
	if !ok {
		return nil, api.Frac{}, api.ErrArg
	}
	best, most := heaviest(n, known)
	if most == 0 {
		return nil, api.Frac{}, api.ErrNone
	}
	values := make([]int, count)
	copy(values, best[:])
	return values, frac.New(most, fullWeight(n)), api.OK
}

// Separated returns true if the set separates x and y, and otherwise false
// and an active trail from x to y. ErrArg: n is not a network, x or y is not
// a variable, they are equal, or set is not a list of different variables
// without x and y.
func Separated(n api.Network, x, y int, set []int) (bool, []int, api.Errno) {
	if !isNetwork(n) {
		return false, nil, api.ErrArg
	}
	count := len(n.Parents)
	if !isVariable(x, count) || !isVariable(y, count) || x == y {
		return false, nil, api.ErrArg
	}
	given, ok := toMembers(set, count)
	if !ok || given[x] || given[y] {
		return false, nil, api.ErrArg
	}
	trail := newWeb(n, given).find(x, y)
	return len(trail) == 0, trail, api.OK
}

// Active reports whether trail is an active trail between its ends, given the
// set. ErrArg: n is not a network, set is not a list of different variables,
// or trail is not a trail with at least two variables, whose ends are not in
// the set.
func Active(n api.Network, trail, set []int) (bool, api.Errno) {
	if !isNetwork(n) {
		return false, api.ErrArg
	}
	given, ok := toMembers(set, len(n.Parents))
	if !ok {
		return false, api.ErrArg
	}
	w := newWeb(n, given)
	if len(trail) < 2 || !w.isTrail(trail) || given[trail[0]] || given[trail[len(trail)-1]] {
		return false, api.ErrArg
	}
	return w.isActive(trail), api.OK
}

// Force returns the network in which v has no parents and always has this
// value. ErrArg: n is not a network, v is not a variable, or value is not 0
// or 1.
func Force(n api.Network, v, value int) (api.Network, api.Errno) {
	if !isNetwork(n) || !isVariable(v, len(n.Parents)) || !isValue(value) {
		return api.Network{}, api.ErrArg
	}
	return forced(n, v, value), api.OK
}

// Effect returns the probabilities that w has the value 1 if v is forced to
// be 0, and if it is forced to be 1. ErrArg: n is not a network, or v or w is
// not a variable.
func Effect(n api.Network, v, w int) (api.Frac, api.Frac, api.Errno) {
	if !isNetwork(n) || !isVariable(v, len(n.Parents)) || !isVariable(w, len(n.Parents)) {
		return api.Frac{}, api.Frac{}, api.ErrArg
	}
	without := factsWeight(forced(n, v, 0), facts{w: 1})
	with := factsWeight(forced(n, v, 1), facts{w: 1})
	whole := fullWeight(n)
	return frac.New(without, whole), frac.New(with, whole), api.OK
}
