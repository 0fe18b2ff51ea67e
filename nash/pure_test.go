package nash_test

import (
	"math/rand"
	"slices"
	"testing"

	"turndown/api"
	"turndown/nash"
)

// P3.2: games without pure equilibria, with one, and with several.
func TestPureExamples(t *testing.T) {
	zero := [][]int{{0, 0, 0}, {0, 0, 0}}
	cases := []struct {
		g     game
		pairs [][2]int
	}{
		{matching(), nil},
		{prisoners(), [][2]int{{1, 1}}},
		{game{[][]int{{-20}}, [][]int{{-20}}}, [][2]int{{0, 0}}},
		{game{[][]int{{0, 0}}, [][]int{{1, 1}}}, [][2]int{{0, 0}, {0, 1}}},
		{game{[][]int{{2, 0}, {0, 1}}, [][]int{{1, 0}, {0, 2}}}, [][2]int{{0, 0}, {1, 1}}},
		{game{[][]int{{0, 1}, {2, 0}}, [][]int{{0, 2}, {1, 0}}}, [][2]int{{0, 1}, {1, 0}}},
		{game{zero, zero}, [][2]int{{0, 0}, {0, 1}, {0, 2}, {1, 0}, {1, 1}, {1, 2}}},
		// An act that is as good as another one is best too.
		{game{[][]int{{1, 1}, {1, 0}}, [][]int{{1, 1}, {1, 0}}}, [][2]int{{0, 0}, {0, 1}, {1, 0}}},
		// The greatest of its column, but not of its row, and the other way round.
		{game{[][]int{{5, 0}, {0, 0}}, [][]int{{0, 1}, {5, 0}}}, [][2]int{{0, 1}}},
	}
	for _, c := range cases {
		if pairs, e := nash.Pure(c.g.a, c.g.b); !slices.Equal(pairs, c.pairs) || e != api.OK {
			t.Errorf("Pure%v = %v, %d; want %v", c.g, pairs, e, c.pairs)
		}
	}
}

// P3.2: Pure returns the pairs that are equilibria, and only these, as Check
// says too, and with the sides exchanged (P3.4).
func TestPureGames(t *testing.T) {
	for _, g := range append(drawnGames(11, 15), smallGames(2, 2, -1, 0, 1)...) {
		pairs, e := nash.Pure(g.a, g.b)
		if !slices.Equal(pairs, purePairs(g)) || e != api.OK {
			t.Errorf("Pure%v = %v, %d; want %v", g, pairs, e, purePairs(g))
		}
		var checked, back [][2]int
		for i := range g.a {
			for j := range g.a[0] {
				if nash.Check(g.a, g.b, always(i, len(g.a)), always(j, len(g.a[0]))) == api.OK {
					checked = append(checked, [2]int{i, j})
				}
			}
		}
		other := g.exchanged()
		turnedPairs, _ := nash.Pure(other.a, other.b)
		for _, pair := range turnedPairs {
			back = append(back, [2]int{pair[1], pair[0]})
		}
		slices.SortFunc(back, func(p, q [2]int) int { return slices.Compare(p[:], q[:]) })
		if !slices.Equal(pairs, checked) || !slices.Equal(pairs, back) {
			t.Errorf("Pure%v = %v; Check finds %v, and Pure with the sides exchanged %v", g, pairs, checked, back)
		}
	}
}

// P3.2: acts that are removed at once, after others, and never.
func TestRestExamples(t *testing.T) {
	zero := func(rows, columns int) [][]int {
		return drawnTable(rand.New(rand.NewSource(1)), rows, columns, 0, 0)
	}
	cases := []struct {
		g             game
		rows, columns []int
	}{
		{prisoners(), []int{1}, []int{1}},
		{matching(), []int{0, 1}, []int{0, 1}},
		{game{[][]int{{0}}, [][]int{{0}}}, []int{0}, []int{0}},
		{game{zero(4, 3), zero(4, 3)}, []int{0, 1, 2, 3}, []int{0, 1, 2}},
		{game{zero(1, 4), [][]int{{4, 7, 5, 7}}}, []int{0}, []int{1, 3}},
		{game{[][]int{{-3}, {-1}, {-2}, {-1}}, zero(4, 1)}, []int{1, 3}, []int{0}},
		// The row 0 is never better, and in one column as good: it remains.
		{game{[][]int{{1, 2}, {1, 3}}, zero(2, 2)}, []int{0, 1}, []int{0, 1}},
		// The row 2 is worse than a mix of the others, but than none of them.
		{game{[][]int{{4, 0}, {0, 4}, {1, 1}}, zero(3, 2)}, []int{0, 1, 2}, []int{0, 1}},
		// The row 1 is dominated only without the column 2, and the column 1 then
		// without the row 1.
		{game{[][]int{{3, 3, 0}, {2, 2, 1}}, [][]int{{2, 1, 0}, {1, 2, 0}}}, []int{0}, []int{0}},
		// The column 0 is greatest in b, which counts; that it is least in a does not.
		{game{[][]int{{-9, 9}}, [][]int{{1, 0}}}, []int{0}, []int{0}},
		// A chain of rows, each of which dominates the one before it.
		{game{[][]int{{1, 1}, {2, 2}, {3, 3}, {4, 4}}, zero(4, 2)}, []int{3}, []int{0, 1}},
		{game{[][]int{{4, 4}, {3, 3}, {2, 2}, {1, 1}}, zero(4, 2)}, []int{0}, []int{0, 1}},
		// The first and last rows remain.
		{game{[][]int{{0, 5}, {-1, 4}, {-1, -6}, {5, 0}}, zero(4, 2)}, []int{0, 3}, []int{0, 1}},
		// One act after the other: columns 3, 2, 1, and a row after each of them.
		{game{
			[][]int{{4, 4, 4, 4}, {3, 5, 5, 5}, {2, 4, 6, 6}, {1, 3, 5, 7}},
			[][]int{{9, 8, 7, 6}, {9, 8, 7, 6}, {7, 9, 8, 6}, {6, 7, 8, 5}},
		}, []int{0}, []int{0}},
	}
	for _, c := range cases {
		rows, columns, e := nash.Rest(c.g.a, c.g.b)
		if !slices.Equal(rows, c.rows) || !slices.Equal(columns, c.columns) || e != api.OK {
			t.Errorf("Rest%v = %v, %v, %d; want %v, %v", c.g, rows, columns, e, c.rows, c.columns)
		}
	}
}

// P3.2: the order of removing does not matter; and P3.4: with the sides
// exchanged, the same acts remain.
func TestRestGames(t *testing.T) {
	r := rand.New(rand.NewSource(12))
	removed := 0
	for _, g := range append(drawnGames(12, 30), smallGames(2, 2, -1, 0, 1)...) {
		rows, columns, e := nash.Rest(g.a, g.b)
		for range 2 {
			wantRows, wantColumns := restOf(g, r)
			if !slices.Equal(rows, wantRows) || !slices.Equal(columns, wantColumns) || e != api.OK {
				t.Fatalf("Rest%v = %v, %v, %d; want %v, %v", g, rows, columns, e, wantRows, wantColumns)
			}
		}
		other := g.exchanged()
		if first, second, e := nash.Rest(other.a, other.b); !slices.Equal(first, columns) || !slices.Equal(second, rows) || e != api.OK {
			t.Errorf("Rest%v = %v, %v; with the sides exchanged %v, %v", g, rows, columns, first, second)
		}
		if len(rows) < len(g.a) && len(columns) < len(g.a[0]) {
			removed++
		}
	}
	if removed < 100 {
		t.Errorf("only in %d games both sides lose acts", removed)
	}
}

// wantOnlyRest tests that acts that do not remain have the probability 0.
func wantOnlyRest(t *testing.T, g game, rest []int, x []api.Frac) {
	t.Helper()
	for act, f := range x {
		if !slices.Contains(rest, act) && f != whole(0) {
			t.Errorf("%v: only %v remain, and an equilibrium has %v", g, rest, x)
		}
	}
}

// P3.4: acts that Rest removes have the probability 0 in every equilibrium.
func TestRemovedActs(t *testing.T) {
	for _, g := range append(drawnGames(13, 4), smallGames(2, 2, 0, 1)...) {
		rows, columns, _ := nash.Rest(g.a, g.b)
		x, y := wantEquilibrium(t, g)
		wantOnlyRest(t, g, rows, x)
		wantOnlyRest(t, g, columns, y)
		for _, x := range gridMixes(len(g.a), 2) {
			for _, y := range gridMixes(len(g.a[0]), 2) {
				if nash.Check(g.a, g.b, x, y) == api.OK {
					wantOnlyRest(t, g, rows, x)
					wantOnlyRest(t, g, columns, y)
				}
			}
		}
	}
}
