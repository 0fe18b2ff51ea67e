package nash_test

import (
	"fmt"
	"math/big"
	"math/rand"
	"slices"
	"testing"

	"turndown/api"
)

// This file has slow computations, straight from the chapter's terms, which
// share no code with the package.

// A game has the table of each side.
type game struct{ a, b [][]int }

func matching() game {
	return game{[][]int{{1, -1}, {-1, 1}}, [][]int{{-1, 1}, {1, -1}}}
}

// prisoners is the chapter's second example.
func prisoners() game {
	return game{[][]int{{3, 0}, {5, 1}}, [][]int{{3, 5}, {0, 1}}}
}

// opposed is the game of a and its negatives.
func opposed(a [][]int) game {
	return game{a, mapped(a, func(number int) int { return -number })}
}

func mapped(a [][]int, change func(int) int) [][]int {
	result := make([][]int, len(a))
	for i, row := range a {
		result[i] = make([]int, len(row))
		for j, number := range row {
			result[i][j] = change(number)
		}
	}
	return result
}

func clone(a [][]int) [][]int {
	return mapped(a, func(number int) int { return number })
}

func sameTable(a, b [][]int) bool {
	return slices.EqualFunc(a, b, slices.Equal[[]int])
}

func turned(a [][]int) [][]int {
	var result [][]int
	for j := range a[0] {
		var row []int
		for i := range a {
			row = append(row, a[i][j])
		}
		result = append(result, row)
	}
	return result
}

// exchanged is the game with the sides exchanged.
func (g game) exchanged() game {
	return game{turned(g.b), turned(g.a)}
}

func drawnTable(r *rand.Rand, rows, columns, least, most int) [][]int {
	a := make([][]int, rows)
	for i := range a {
		for range columns {
			a[i] = append(a[i], least+r.Intn(most-least+1))
		}
	}
	return a
}

// drawn returns a game of one of several kinds: with few different numbers,
// so that many acts are as good as each other; with any numbers; with nothing
// to share; with a first side that wants to meet the second one, which does
// not; and with the same acts twice.
func drawn(r *rand.Rand, rows, columns, kind int) game {
	limit := []int{1, 2, 20, 20, 20, 3}[kind%6]
	g := game{drawnTable(r, rows, columns, -limit, limit), drawnTable(r, rows, columns, -limit, limit)}
	switch kind % 6 {
	case 3:
		return opposed(g.a)
	case 4:
		for i := range rows {
			for j := range columns {
				if (i == j) == (g.a[i][j] < g.b[i][j]) {
					g.a[i][j], g.b[i][j] = g.b[i][j], g.a[i][j]
				}
			}
		}
	case 5:
		copy(g.a[rows-1], g.a[0])
		for i := range rows {
			g.b[i][columns-1] = g.b[i][0]
		}
	}
	return g
}

// drawnGames are drawn anew by every test, of all sizes and kinds.
func drawnGames(seed int64, rounds int) []game {
	r := rand.New(rand.NewSource(seed))
	games := []game{matching(), prisoners()}
	for range rounds {
		for rows := 1; rows <= api.MaxActs; rows++ {
			for columns := 1; columns <= api.MaxActs; columns++ {
				for kind := range 6 {
					games = append(games, drawn(r, rows, columns, kind))
				}
			}
		}
	}
	return games
}

// smallGames are all of this size with these numbers.
func smallGames(rows, columns int, numbers ...int) []game {
	all := [][]int{nil}
	for range 2 * rows * columns {
		var longer [][]int
		for _, list := range all {
			for _, number := range numbers {
				longer = append(longer, append(slices.Clone(list), number))
			}
		}
		all = longer
	}
	var games []game
	for _, list := range all {
		var g game
		for row := range slices.Chunk(list[:rows*columns], columns) {
			g.a = append(g.a, row)
		}
		for row := range slices.Chunk(list[rows*columns:], columns) {
			g.b = append(g.b, row)
		}
		games = append(games, g)
	}
	return games
}

// gridMixes returns all mixes whose probabilities are multiples of 1 / whole.
func gridMixes(acts, whole int) [][]api.Frac {
	lists := [][]int{nil}
	for range acts {
		var longer [][]int
		for _, list := range lists {
			for weight := range whole + 1 {
				longer = append(longer, append(slices.Clone(list), weight))
			}
		}
		lists = longer
	}
	var mixes [][]api.Frac
	for _, list := range lists {
		total := 0
		for _, weight := range list {
			total += weight
		}
		if total == whole {
			mixes = append(mixes, mixOf(list...))
		}
	}
	return mixes
}

// mixOf returns the mix of these weights.
func mixOf(weights ...int) []api.Frac {
	total := 0
	for _, weight := range weights {
		total += weight
	}
	var x []api.Frac
	for _, weight := range weights {
		x = append(x, frac(big.NewRat(int64(weight), int64(total))))
	}
	return x
}

// drawnMix often leaves acts out.
func drawnMix(r *rand.Rand, acts, limit int) []api.Frac {
	weights := make([]int, acts)
	weights[r.Intn(acts)] = 1 + r.Intn(limit)
	for i := range weights {
		if r.Intn(2) == 0 {
			weights[i] += r.Intn(limit)
		}
	}
	return mixOf(weights...)
}

// isMix reports whether x is a mix of these acts.
func isMix(x []api.Frac, acts int) bool {
	total, whole := new(big.Rat), big.NewInt(1)
	for _, f := range x {
		if f.Den < 1 || f.Num < 0 || frac(rat(f)) != f {
			return false
		}
		total.Add(total, rat(f))
		den := big.NewInt(int64(f.Den))
		divisor := new(big.Int).GCD(nil, nil, whole, den)
		whole.Mul(whole, den.Quo(den, divisor))
	}
	return len(x) == acts && total.Cmp(big.NewRat(1, 1)) == 0 && whole.Cmp(big.NewInt(1<<24)) <= 0
}

// gainOf is the sum of the products over all pairs of acts.
func gainOf(table [][]int, x, y []api.Frac) *big.Rat {
	total := new(big.Rat)
	for i, row := range table {
		for j, number := range row {
			product := new(big.Rat).Mul(rat(x[i]), rat(y[j]))
			total.Add(total, product.Mul(product, big.NewRat(int64(number), 1)))
		}
	}
	return total
}

// always is the mix of one act.
func always(act, acts int) []api.Frac {
	weights := make([]int, acts)
	weights[act] = 1
	return mixOf(weights...)
}

// rowGains are those of the first side by each row against y.
func rowGains(table [][]int, y []api.Frac) []*big.Rat {
	var gains []*big.Rat
	for i := range table {
		gains = append(gains, gainOf(table, always(i, len(table)), y))
	}
	return gains
}

// columnGains are those in the table by each column against x.
func columnGains(table [][]int, x []api.Frac) []*big.Rat {
	return rowGains(turned(table), x)
}

func greatest(gains []*big.Rat) *big.Rat {
	return slices.MaxFunc(gains, (*big.Rat).Cmp)
}

// isEquilibrium compares the gains with those of all single acts: a mix of
// acts never gains more than the best one of them.
func isEquilibrium(g game, x, y []api.Frac) bool {
	return gainOf(g.a, x, y).Cmp(greatest(rowGains(g.a, y))) == 0 &&
		gainOf(g.b, x, y).Cmp(greatest(columnGains(g.b, x))) == 0
}

// purePairs compares the number of each pair with its column and its row.
func purePairs(g game) [][2]int {
	var pairs [][2]int
	for i, row := range g.b {
		for j, number := range row {
			column := turned(g.a)[j]
			if number == slices.Max(row) && column[i] == slices.Max(column) {
				pairs = append(pairs, [2]int{i, j})
			}
		}
	}
	return pairs
}

// isBelow reports whether the row i is dominated by k in these columns.
func isBelow(a [][]int, i, k int, columns []int) bool {
	for _, j := range columns {
		if a[i][j] >= a[k][j] {
			return false
		}
	}
	return true
}

func dominated(a [][]int, rows, columns []int) []int {
	var below []int
	for _, i := range rows {
		if slices.ContainsFunc(rows, func(k int) bool { return isBelow(a, i, k, columns) }) {
			below = append(below, i)
		}
	}
	return below
}

// restOf removes one act after the other, in drawn order.
func restOf(g game, r *rand.Rand) ([]int, []int) {
	var left [2][]int
	for i := range g.a {
		left[0] = append(left[0], i)
	}
	for j := range g.a[0] {
		left[1] = append(left[1], j)
	}
	for {
		below := [2][]int{dominated(g.a, left[0], left[1]), dominated(turned(g.b), left[1], left[0])}
		if len(below[0])+len(below[1]) == 0 {
			return left[0], left[1]
		}
		side := r.Intn(2)
		if len(below[side]) == 0 {
			side = 1 - side
		}
		act := below[side][r.Intn(len(below[side]))]
		left[side] = slices.DeleteFunc(left[side], func(other int) bool { return other == act })
	}
}

// frac is the valid fraction of x (a big.Rat is always reduced).
func frac(x *big.Rat) api.Frac {
	return api.Frac{Num: int(x.Num().Int64()), Den: int(x.Denom().Int64())}
}

func rat(f api.Frac) *big.Rat {
	return big.NewRat(int64(f.Num), int64(f.Den))
}

func whole(n int) api.Frac { return api.Frac{Num: n, Den: 1} }

func (g game) String() string { return fmt.Sprintf("(%v, %v)", g.a, g.b) }

func wantFrac(t *testing.T, what string, got api.Frac, e api.Errno, want api.Frac) {
	t.Helper()
	if got != want || e != api.OK {
		t.Errorf("%s = %v, %d; want %v, 0", what, got, e, want)
	}
}
