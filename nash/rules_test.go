package nash_test

import (
	"fmt"
	"math"
	"slices"
	"testing"

	"turndown/api"
	"turndown/nash"
)

// wrongTables are no tables of a game, each for one reason.
func wrongTables() map[string][][]int {
	row := func(numbers ...int) []int { return numbers }
	return map[string][][]int{
		"nil":              nil,
		"no rows":          {},
		"nil row":          {nil},
		"no columns":       {{}, {}},
		"five rows":        {row(0), row(0), row(0), row(0), row(0)},
		"five columns":     {row(0, 0, 0, 0, 0)},
		"very many rows":   make([][]int, 100000),
		"very many":        {make([]int, 100000)},
		"shorter row":      {row(0, 0), row(0)},
		"longer row":       {row(0, 0), row(0, 0, 0)},
		"later empty row":  {row(0, 0), nil},
		"first empty row":  {nil, row(0, 0)},
		"last longer row":  {row(0), row(0), row(0), row(0, 0)},
		"21":               {row(21)},
		"-21":              {row(-21)},
		"last 21":          {row(0, 0), row(0, 21)},
		"last -21":         {row(0, 0), row(0, -21)},
		"21 in 2 columns":  {row(0, 21)},
		"-21 in 2 rows":    {row(0), row(-21)},
		"least number":     {row(0, math.MinInt), row(0, 0)},
		"greatest number":  {row(0, 0), row(math.MaxInt, 0)},
		"both":             {row(math.MinInt, math.MaxInt), row(0, 0)},
		"wrong number too": {row(0, 99), row(0)},
	}
}

// pairsOfTables are no games: with a wrong table, or with tables of
// different sizes.
func pairsOfTables() map[string]game {
	pairs := map[string]game{}
	for name, a := range wrongTables() {
		pairs[name+" twice"] = game{a, a}
		for _, b := range [][][]int{{{0}}, {{0, 0}}, {{0}, {0}}, {{0, 0}, {0, 0}}, {{0}, {0}, {0}, {0}}} {
			pairs[fmt.Sprint(name, " first, then ", b)] = game{a, b}
			pairs[fmt.Sprint(name, " second, after ", b)] = game{b, a}
		}
	}
	sizes := []int{1, 2, 3, 4}
	table := func(rows, columns int) [][]int {
		a := make([][]int, rows)
		for i := range a {
			a[i] = make([]int, columns)
		}
		return a
	}
	for _, rows := range sizes {
		for _, columns := range sizes {
			for _, other := range sizes {
				if other != columns {
					pairs[fmt.Sprint(rows, columns, other, " columns")] = game{table(rows, columns), table(rows, other)}
				}
				if other != rows {
					pairs[fmt.Sprint(rows, columns, other, " rows")] = game{table(rows, columns), table(other, columns)}
				}
			}
		}
	}
	return pairs
}

// P3.1, P3.2, Rules 2 and 4: what is not a game has ErrArg, whatever the
// mixes are, and every other result is zero.
func TestWrongGames(t *testing.T) {
	mixes := [][]api.Frac{nil, mixOf(1), mixOf(1, 1), mixOf(1, 1, 1, 1), {whole(-1), whole(2)}, {{}}}
	for name, g := range pairsOfTables() {
		if x, y, e := nash.Solve(g.a, g.b); len(x) != 0 || len(y) != 0 || e != api.ErrArg {
			t.Errorf("%s: Solve = %v, %v, %d", name, x, y, e)
		}
		if pairs, e := nash.Pure(g.a, g.b); len(pairs) != 0 || e != api.ErrArg {
			t.Errorf("%s: Pure = %v, %d", name, pairs, e)
		}
		if rows, columns, e := nash.Rest(g.a, g.b); len(rows) != 0 || len(columns) != 0 || e != api.ErrArg {
			t.Errorf("%s: Rest = %v, %v, %d", name, rows, columns, e)
		}
		for _, x := range mixes {
			for _, y := range mixes {
				if e := nash.Check(g.a, g.b, x, y); e != api.ErrArg {
					t.Errorf("%s: Check of %v, %v = %d", name, x, y, e)
				}
				if f, h, e := nash.Gains(g.a, g.b, x, y); f != (api.Frac{}) || h != (api.Frac{}) || e != api.ErrArg {
					t.Errorf("%s: Gains of %v, %v = %v, %v, %d", name, x, y, f, h, e)
				}
			}
		}
	}
}

// P3.3, Rule 4: what is not a game with its negatives has ErrArg.
func TestWrongTables(t *testing.T) {
	for name, a := range wrongTables() {
		if f, e := nash.Value(a); f != (api.Frac{}) || e != api.ErrArg {
			t.Errorf("%s: Value = %v, %d", name, f, e)
		}
		if x, y, e := nash.Secure(a); len(x) != 0 || len(y) != 0 || e != api.ErrArg {
			t.Errorf("%s: Secure = %v, %v, %d", name, x, y, e)
		}
	}
}

// Games at the limits are accepted: 1 and 4 acts, numbers -20 and 20.
func TestGamesAtLimits(t *testing.T) {
	for rows := 1; rows <= 4; rows++ {
		for columns := 1; columns <= 4; columns++ {
			for _, numbers := range [][2]int{{20, -20}, {-20, 20}, {20, 20}, {-20, -20}} {
				var g game
				for range rows {
					g.a = append(g.a, slices.Repeat([]int{numbers[0]}, columns))
					g.b = append(g.b, slices.Repeat([]int{numbers[1]}, columns))
				}
				wantEquilibrium(t, g)
				wantSecure(t, g.a)
				pairs, e := nash.Pure(g.a, g.b)
				left, right, f := nash.Rest(g.a, g.b)
				if len(pairs) != rows*columns || len(left) != rows || len(right) != columns || e != api.OK || f != api.OK {
					t.Errorf("%v: Pure = %v, %d, Rest = %v, %v, %d", g, pairs, e, left, right, f)
				}
			}
		}
	}
}

// answers are the results of all functions, as a text.
func answers(g game, x, y []api.Frac) string {
	first, second, e1 := nash.Solve(g.a, g.b)
	e2 := nash.Check(g.a, g.b, x, y)
	f, h, e3 := nash.Gains(g.a, g.b, x, y)
	pairs, e4 := nash.Pure(g.a, g.b)
	rows, columns, e5 := nash.Rest(g.a, g.b)
	value, e6 := nash.Value(g.a)
	sure, safe, e7 := nash.Secure(g.a)
	return fmt.Sprint(first, second, e1, e2, f, h, e3, pairs, e4, rows, columns, e5, value, e6, sure, safe, e7)
}

// P2 and Rule 5: the same call has the same result, whatever was called in
// between, and changes no argument.
func TestCallsChangeNothing(t *testing.T) {
	first := map[string]string{}
	for range 3 {
		games := append(drawnGames(31, 2), game{}, game{[][]int{{1, 2}, {21}}, [][]int{{0}}})
		for _, g := range games {
			for _, x := range [][]api.Frac{mixOf(1, 1), mixOf(1, 2, 3), {{Num: 2, Den: 4}, {}}} {
				kept, keptX, y := game{clone(g.a), clone(g.b)}, slices.Clone(x), slices.Clone(x)
				call := fmt.Sprint(g, x)
				got := answers(g, x, y)
				if before, ok := first[call]; ok && before != got {
					t.Fatalf("%s: first %s, then %s", call, before, got)
				}
				first[call] = got
				if !sameTable(g.a, kept.a) || !sameTable(g.b, kept.b) || !slices.Equal(x, keptX) || !slices.Equal(y, keptX) {
					t.Errorf("%s: an argument has been changed", call)
				}
			}
		}
	}
}

// Rule 5: results are new memory.
func TestResultsAreNew(t *testing.T) {
	g := prisoners()
	want := answers(g, mixOf(0, 1), mixOf(0, 1))
	for range 2 {
		x, y, _ := nash.Solve(g.a, g.b)
		pairs, _ := nash.Pure(g.a, g.b)
		rows, columns, _ := nash.Rest(g.a, g.b)
		sure, safe, _ := nash.Secure(g.a)
		for _, list := range [][]api.Frac{x, y, sure, safe} {
			if !slices.Equal(list, mixOf(0, 1)) {
				t.Errorf("a result shares memory with another one: %v", list)
			}
			clear(list[:cap(list)])
		}
		for _, list := range [][]int{rows, columns} {
			if !slices.Equal(list, []int{1}) {
				t.Errorf("a result shares memory with another one: %v", list)
			}
			clear(list[:cap(list)])
		}
		clear(pairs[:cap(pairs)])
	}
	if got := answers(g, mixOf(0, 1), mixOf(0, 1)); got != want || !sameTable(g.a, prisoners().a) || !sameTable(g.b, prisoners().b) {
		t.Errorf("first %s, then %s for %v", want, got, g)
	}
}

// P1: each function returns, for all arguments.
func TestNoPanics(t *testing.T) {
	numbers := []int{math.MinInt, math.MinInt + 1, -21, -20, -1, 0, 1, 2, 20, 21, 1 << 24, 1<<24 + 1, 1 << 32, math.MaxInt}
	tables := [][][]int{nil, {}, {nil}, {{0}}, {{0}, nil}, {{0, 1}, {1, 0}}, make([][]int, 4), make([][]int, 5)}
	for _, x := range numbers {
		for _, y := range numbers {
			tables = append(tables, [][]int{{x, y}}, [][]int{{x}, {y}})
			for _, z := range numbers {
				lists := [][]api.Frac{{{Num: x, Den: y}}, {{Num: x, Den: y}, {Num: z, Den: y}}, {{Num: z, Den: x}, {Num: y, Den: z}}}
				for _, list := range lists {
					for _, g := range []game{matching(), {[][]int{{0}}, [][]int{{0}}}, {[][]int{{20, -20}}, [][]int{{-20, 20}}}} {
						nash.Check(g.a, g.b, list, list)
						nash.Check(g.a, g.b, mixOf(1, 1), list)
						nash.Gains(g.a, g.b, mixOf(1), list)
						nash.Gains(g.a, g.b, list, mixOf(1, 1))
					}
				}
			}
		}
	}
	for i, a := range tables {
		for _, b := range [][][]int{a, tables[(i+1)%len(tables)], tables[i%8]} {
			answers(game{a, b}, mixOf(1, 1), mixOf(1))
		}
	}
}
