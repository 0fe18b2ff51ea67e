package bayes

import "turndown/api"

// An assignment has the value of each variable at its number, and 0 behind
// the last one.
type assignment [api.MaxVariables]int

// Facts have the value of each variable that is known.
type facts map[int]int

// toAssignment also reports whether values has one value for each variable.
func toAssignment(values []int, count int) (assignment, bool) {
	var a assignment
	if len(values) != count {
		return a, false
	}
	for v, value := range values {
		if !isValue(value) {
			return assignment{}, false
		}
		a[v] = value
	}
	return a, true
}

// toFacts also reports whether the pairs are facts.
func toFacts(pairs [][2]int, count int) (facts, bool) {
	f := facts{}
	for _, pair := range pairs {
		v, value := pair[0], pair[1]
		_, twice := f[v]
		if twice || !isVariable(v, count) || !isValue(value) {
			return nil, false
		}
		f[v] = value
	}
	return f, true
}

// join returns the facts of both, and reports whether they can hold at once.
func (f facts) join(other facts) (facts, bool) {
	both := facts{}
	for v, value := range f {
		both[v] = value
	}
	for v, value := range other {
		known, ok := both[v]
		if ok && known != value {
			return nil, false
		}
		both[v] = value
	}
	return both, true
}

func (f facts) agree(a assignment) bool {
	for v, value := range f {
		if a[v] != value {
			return false
		}
	}
	return true
}

// assignments returns the number of assignments to count variables.
func assignments(count int) int {
	return 1 << count
}

// assignmentAt returns the assignment at a position in the lexicographic
// order of all of them: the first variable has the highest bit.
func assignmentAt(position, count int) assignment {
	var a assignment
	for v := range count {
		a[v] = position >> (count - 1 - v) & 1
	}
	return a
}

// Weights are probabilities times fullWeight, so that they are ints: 10
// variables have at most the weight 2^40.

// fullWeight is the weight of what is certain.
func fullWeight(n api.Network) int {
	product := 1
	for range n.Table {
		product *= certain
	}
	return product
}

// weight returns that of an assignment.
func weight(n api.Network, a assignment) int {
	product := 1
	for v, table := range n.Table {
		index := 0
		for j, p := range n.Parents[v] {
			index += a[p] << j
		}
		if a[v] == 1 {
			product *= table[index]
		} else {
			product *= certain - table[index]
		}
	}
	return product
}

// factsWeight returns the sum of the weights of the assignments that agree
// with the facts.
func factsWeight(n api.Network, f facts) int {
	count := len(n.Table)
	sum := 0
	for position := range assignments(count) {
		a := assignmentAt(position, count)
		if f.agree(a) {
			sum += weight(n, a)
		}
	}
	return sum
}

// heaviest returns the first assignment of the greatest weight among those
// that agree with the facts, and this weight; the weight is 0 if the facts
// are impossible.
func heaviest(n api.Network, f facts) (assignment, int) {
	count := len(n.Table)
	var best assignment
	most := 0
	for position := range assignments(count) {
		a := assignmentAt(position, count)
		if !f.agree(a) {
			continue
		}
		if here := weight(n, a); here > most {
			best, most = a, here
		}
	}
	return best, most
}
