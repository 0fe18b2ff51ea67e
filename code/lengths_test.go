package code_test

import (
	"math/rand"
	"slices"
	"testing"

	"turndown/api"
	"turndown/code"
)

// wantBest tests that Best returns possible lengths up to the limit of this
// cost, or none if it is -1. It returns them.
func wantBest(t *testing.T, weights []int, limit, cost int) []int {
	t.Helper()
	lengths, n, e := code.Best(weights, limit)
	if cost < 0 {
		if len(lengths) != 0 || n != 0 || e != api.ErrNone {
			t.Errorf("Best(%v, %d) = %v, %d, %d", weights, limit, lengths, n, e)
		}
		return nil
	}
	if n != cost || e != api.OK {
		t.Errorf("Best(%v, %d) = %v, %d, %d, want the cost %d", weights, limit, lengths, n, e, cost)
	}
	if len(lengths) != len(weights) || slices.Min(lengths) < 0 || slices.Max(lengths) > limit || !isPossible(lengths) {
		t.Fatalf("Best(%v, %d) = %v", weights, limit, lengths)
	}
	if costOf(weights, lengths) != cost {
		t.Errorf("Best(%v, %d) = %v, which cost %d, not %d", weights, limit, lengths, costOf(weights, lengths), cost)
	}
	wantCost(t, weights, lengths)
	return lengths
}

func wantCost(t *testing.T, weights, lengths []int) {
	t.Helper()
	if n, e := code.Cost(weights, lengths); n != costOf(weights, lengths) || e != api.OK {
		t.Errorf("Cost(%v, %v) = %d, %d, want %d", weights, lengths, n, e, costOf(weights, lengths))
	}
}

// P6.1: the chapter's first example.
func TestExampleOfLengths(t *testing.T) {
	weights := []int{1, 1, 2, 4}
	for limit := 3; limit <= api.MaxBits; limit++ {
		if l := wantBest(t, weights, limit, 14); !slices.Equal(l, []int{3, 3, 2, 1}) {
			t.Errorf("Best = %v", l)
		}
	}
	if l := wantBest(t, weights, 2, 16); !slices.Equal(l, []int{2, 2, 2, 2}) {
		t.Errorf("Best = %v", l)
	}
	wantBest(t, weights, 1, -1)
	wantBest(t, weights, 0, -1)
}

// P6.1, P4: no possible lengths up to the limit cost less, for all weights of
// few symbols.
func TestAllSmallWeights(t *testing.T) {
	for count := 1; count <= 4; count++ {
		for limit := range 5 {
			var possible [][]int
			for _, lengths := range allLists(count, limit) {
				if isPossible(lengths) {
					possible = append(possible, lengths)
				}
			}
			for _, weights := range allLists(count, 3+4/count) {
				least := -1
				for _, lengths := range possible {
					if cost := costOf(weights, lengths); least < 0 || cost < least {
						least = cost
					}
				}
				wantBest(t, weights, limit, least)
			}
		}
	}
}

// P6.1, P4: the least cost of more symbols and other limits, up to the
// greatest ones, is what another way of finding it has.
func TestDrawnWeights(t *testing.T) {
	r := rand.New(rand.NewSource(1))
	for _, count := range []int{1, 2, 3, 5, 6, 7, 9, 12, 17, 31, 33, 63, 64} {
		for _, weights := range drawnWeights(r, count) {
			for _, limit := range []int{1, 2, 3, 4, 5, 6, 7, 9, 12, 32} {
				wantBest(t, weights, limit, treeCost(weights, limit))
			}
			if count <= 33 {
				wantBest(t, weights, 32, huffmanCost(weights))
			}
		}
	}
}

// P6.1: the limit matters also where it is great: these weights would need a
// length of one less than their number.
func TestGreatLimits(t *testing.T) {
	var weights []int
	for i := range 31 {
		weights = append(weights, 1<<i)
	}
	weights = append(weights, 1)
	if l := wantBest(t, weights, 31, huffmanCost(weights)); slices.Max(l) != 31 {
		t.Errorf("Best = %v", l)
	}
	for limit := range 31 {
		if cost := treeCost(weights, limit); cost >= 0 && cost <= huffmanCost(weights) {
			t.Fatalf("these weights do not need the limit %d", limit)
		}
		wantBest(t, weights, limit, treeCost(weights, limit))
	}
}

// P6.1: ErrNone if and only if there are more than 2^limit symbols.
func TestTooManySymbols(t *testing.T) {
	for count := 1; count <= api.MaxSymbols; count++ {
		for limit := range 8 {
			cost := -1
			if count <= 1<<limit {
				cost = 0
			}
			wantBest(t, make([]int, count), limit, cost)
		}
	}
}

// P6.1: as many symbols as there are words of the limit all get this length,
// and a single symbol gets the length 0.
func TestNoChoice(t *testing.T) {
	r := rand.New(rand.NewSource(2))
	for limit := range 7 {
		for _, weights := range drawnWeights(r, 1<<limit) {
			equal := slices.Repeat([]int{limit}, 1<<limit)
			if l := wantBest(t, weights, limit, costOf(weights, equal)); !slices.Equal(l, equal) {
				t.Errorf("Best(%v, %d) = %v", weights, limit, l)
			}
		}
	}
	for limit := range api.MaxBits + 1 {
		for _, weight := range []int{0, 1, 5, api.MaxWeight} {
			wantBest(t, []int{weight}, limit, 0)
		}
	}
}

// P6.1: Cost is also there for lengths that are not possible.
func TestCost(t *testing.T) {
	weights := []int{1, 1, 2, 4}
	for _, lengths := range [][]int{{1, 2, 3, 3}, {0, 0, 0, 0}, {1, 0, 0, 0}, {32, 32, 32, 32}, {0, 0, 0, 1}} {
		wantCost(t, weights, lengths)
	}
	if n, e := code.Cost(weights, []int{1, 2, 3, 3}); n != 21 || e != api.OK {
		t.Errorf("Cost = %d, %d", n, e)
	}
	most, longest := slices.Repeat([]int{api.MaxWeight}, api.MaxSymbols), slices.Repeat([]int{api.MaxBits}, api.MaxSymbols)
	if n, e := code.Cost(most, longest); n != 1<<41 || e != api.OK {
		t.Errorf("Cost = %d, %d", n, e)
	}
	r := rand.New(rand.NewSource(3))
	for count := 1; count <= api.MaxSymbols; count++ {
		for _, weights := range drawnWeights(r, count) {
			lengths := make([]int, count)
			for i := range lengths {
				lengths[i] = r.Intn(api.MaxBits + 1)
			}
			wantCost(t, weights, lengths)
		}
	}
}
