package bayes_test

import (
	"math/big"
	"math/rand"
	"slices"
	"testing"

	"turndown/api"
)

// This file has slow computations, straight from the chapter's terms, which
// share no code with the package.

func two() api.Network {
	return api.Network{Parents: [][]int{nil, {0}}, Table: [][]int{{8}, {4, 12}}}
}

// common has the causes 0 and 1 of 2, whose child is 3.
func common() api.Network {
	return api.Network{
		Parents: [][]int{nil, nil, {0, 1}, {2}},
		Table:   [][]int{{8}, {4}, {0, 16, 16, 16}, {4, 12}},
	}
}

// ten has variables with 0, 1, 2 and 3 parents.
func ten() api.Network {
	return api.Network{
		Parents: [][]int{{}, {0}, {0, 1}, {0, 1, 2}, {}, {2, 4}, {0, 3, 5}, {6}, {1, 4, 7}, {5, 8}},
		Table: [][]int{
			{3}, {16, 5}, {1, 2, 3, 4}, {15, 0, 16, 1, 8, 7, 11, 2}, {9}, {4, 3, 13, 1},
			{2, 4, 6, 8, 10, 12, 14, 16}, {0, 9}, {5, 15, 3, 13, 1, 11, 7, 9}, {16, 0, 6, 10},
		},
	}
}

func single(entry int) api.Network {
	return api.Network{Parents: [][]int{nil}, Table: [][]int{{entry}}}
}

// drawn returns a network with count variables; a third of its entries are 0
// or 16 if hard is true.
func drawn(r *rand.Rand, count int, hard bool) api.Network {
	n := api.Network{Parents: make([][]int, count), Table: make([][]int, count)}
	for v := range count {
		parents := r.Perm(v)[:min(v, r.Intn(4))]
		slices.Sort(parents)
		n.Parents[v] = parents
		n.Table[v] = make([]int, 1<<len(parents))
		for i := range n.Table[v] {
			n.Table[v][i] = r.Intn(17)
			if hard && r.Intn(3) == 0 {
				n.Table[v][i] = 16 * r.Intn(2)
			}
		}
	}
	return n
}

func clone(n api.Network) api.Network {
	c := api.Network{}
	for _, list := range n.Parents {
		c.Parents = append(c.Parents, append([]int{}, list...))
	}
	for _, list := range n.Table {
		c.Table = append(c.Table, append([]int{}, list...))
	}
	return c
}

func same(a, b api.Network) bool {
	return slices.EqualFunc(a.Parents, b.Parents, slices.Equal[[]int]) &&
		slices.EqualFunc(a.Table, b.Table, slices.Equal[[]int])
}

// assignmentsOf returns all lists of count values in lexicographic order.
func assignmentsOf(count int) [][]int {
	all := [][]int{{}}
	for range count {
		var longer [][]int
		for _, list := range all {
			longer = append(longer, append(slices.Clone(list), 0), append(slices.Clone(list), 1))
		}
		all = longer
	}
	return all
}

func probability(n api.Network, values []int) *big.Rat {
	product := big.NewRat(1, 1)
	for v, value := range values {
		index := 0
		for j, p := range n.Parents[v] {
			if values[p] == 1 {
				index |= 1 << j
			}
		}
		factor := big.NewRat(int64(n.Table[v][index]), 16)
		if value == 0 {
			factor.Sub(big.NewRat(1, 1), factor)
		}
		product.Mul(product, factor)
	}
	return product
}

// A joint is the list of all assignments with their probabilities.
type joint struct {
	lists  [][]int
	chance []*big.Rat
}

func jointOf(n api.Network) joint {
	j := joint{lists: assignmentsOf(len(n.Parents))}
	for _, list := range j.lists {
		j.chance = append(j.chance, probability(n, list))
	}
	return j
}

func holds(list []int, pairs [][2]int) bool {
	for _, p := range pairs {
		if list[p[0]] != p[1] {
			return false
		}
	}
	return true
}

func (j joint) of(pairs ...[2]int) *big.Rat {
	sum := new(big.Rat)
	for i, list := range j.lists {
		if holds(list, pairs) {
			sum.Add(sum, j.chance[i])
		}
	}
	return sum
}

// frac is the valid fraction of x (a big.Rat is always reduced).
func frac(x *big.Rat) api.Frac {
	return api.Frac{Num: int(x.Num().Int64()), Den: int(x.Denom().Int64())}
}

func rat(f api.Frac) *big.Rat {
	return big.NewRat(int64(f.Num), int64(f.Den))
}

func drawnFacts(r *rand.Rand, count int) [][2]int {
	var pairs [][2]int
	for _, v := range r.Perm(count)[:r.Intn(count+1)] {
		pairs = append(pairs, [2]int{v, r.Intn(2)})
	}
	return pairs
}

// moralSeparated decides separation in another way than by trails: after
// all but x, y, the set and their ancestors are removed, and all parents of a
// common child are joined, every path from x to y must meet the set.
func moralSeparated(n api.Network, x, y int, set []int) bool {
	kept := map[int]bool{x: true, y: true}
	for _, v := range set {
		kept[v] = true
	}
	for v := len(n.Parents) - 1; v >= 0; v-- {
		for _, p := range n.Parents[v] {
			kept[p] = kept[p] || kept[v]
		}
	}
	joined := map[[2]int]bool{}
	for v, parents := range n.Parents {
		if !kept[v] {
			continue
		}
		family := append([]int{v}, parents...)
		for _, a := range family {
			for _, b := range family {
				joined[[2]int{a, b}] = true
			}
		}
	}
	reached := map[int]bool{x: true}
	for work := []int{x}; len(work) > 0; work = work[1:] {
		for v := range n.Parents {
			if joined[[2]int{work[0], v}] && !reached[v] && !slices.Contains(set, v) {
				reached[v] = true
				work = append(work, v)
			}
		}
	}
	return !reached[y]
}

func isParent(n api.Network, p, v int) bool {
	return slices.Contains(n.Parents[v], p)
}

func descends(n api.Network, v, from int) bool {
	for _, p := range n.Parents[v] {
		if p == from || descends(n, p, from) {
			return true
		}
	}
	return false
}

func isActive(n api.Network, trail, set []int) bool {
	for i := 1; i < len(trail)-1; i++ {
		v := trail[i]
		in := slices.Contains(set, v)
		if !isParent(n, trail[i-1], v) || !isParent(n, trail[i+1], v) {
			if in {
				return false
			}
			continue
		}
		for _, s := range set {
			in = in || descends(n, s, v)
		}
		if !in {
			return false
		}
	}
	return true
}

// trailsBetween returns all trails from x to y.
func trailsBetween(n api.Network, x, y int) [][]int {
	var found [][]int
	for todo := [][]int{{x}}; len(todo) > 0; todo = todo[1:] {
		trail := todo[0]
		last := trail[len(trail)-1]
		if last == y {
			found = append(found, trail)
			continue
		}
		for v := range n.Parents {
			if !slices.Contains(trail, v) && (isParent(n, last, v) || isParent(n, v, last)) {
				todo = append(todo, append(slices.Clone(trail), v))
			}
		}
	}
	return found
}

// setsWithout returns all ascending lists of variables other than x and y.
func setsWithout(count, x, y int) [][]int {
	sets := [][]int{nil}
	for v := range count {
		if v == x || v == y {
			continue
		}
		for _, s := range slices.Clone(sets) {
			sets = append(sets, append(slices.Clone(s), v))
		}
	}
	return sets
}

func wantFrac(t *testing.T, what string, got api.Frac, e api.Errno, want api.Frac) {
	t.Helper()
	if got != want || e != api.OK {
		t.Errorf("%s = %v, %d; want %v, 0", what, got, e, want)
	}
}
