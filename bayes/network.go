package bayes

import "turndown/api"

const (
	maxParents = 3  // parents of a variable
	certain    = 16 // the entry of a table for the probability 1
)

// isNetwork tests the number of variables first, so that lists of any length
// are rejected without being read.
func isNetwork(n api.Network) bool {
	count := len(n.Parents)
	if count < 1 || count > api.MaxVariables || len(n.Table) != count {
		return false
	}
	for v, parents := range n.Parents {
		if !areParents(parents, v) || !isTable(n.Table[v], len(parents)) {
			return false
		}
	}
	return true
}

// areParents reports whether a list can be that of the parents of v.
func areParents(parents []int, v int) bool {
	if len(parents) > maxParents {
		return false
	}
	least := 0
	for _, p := range parents {
		if p < least || p >= v {
			return false
		}
		least = p + 1
	}
	return true
}

// isTable reports whether a list can be the table of a variable with that
// many parents.
func isTable(table []int, parents int) bool {
	if len(table) != 1<<parents {
		return false
	}
	for _, entry := range table {
		if entry < 0 || entry > certain {
			return false
		}
	}
	return true
}

func isVariable(v, count int) bool {
	return v >= 0 && v < count
}

func isValue(value int) bool {
	return value == 0 || value == 1
}

// forced returns a copy of the network, of which v has no parents and always
// has this value.
func forced(n api.Network, v, value int) api.Network {
	result := api.Network{Parents: copied(n.Parents), Table: copied(n.Table)}
	result.Parents[v] = []int{}
	result.Table[v] = []int{value * certain}
	return result
}

func copied(lists [][]int) [][]int {
	result := make([][]int, len(lists))
	for i, list := range lists {
		result[i] = make([]int, len(list))
		copy(result[i], list)
	}
	return result
}
