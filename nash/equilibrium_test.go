package nash_test

import (
	"math"
	"math/rand"
	"slices"
	"testing"

	"turndown/api"
	"turndown/nash"
)

// wantEquilibrium tests what Solve returns for the game.
func wantEquilibrium(t *testing.T, g game) ([]api.Frac, []api.Frac) {
	t.Helper()
	x, y, e := nash.Solve(g.a, g.b)
	if e != api.OK || !isMix(x, len(g.a)) || !isMix(y, len(g.a[0])) || !isEquilibrium(g, x, y) {
		t.Fatalf("Solve%v = %v, %v, %d", g, x, y, e)
	}
	if e := nash.Check(g.a, g.b, x, y); e != api.OK {
		t.Fatalf("Check%v of %v, %v = %d", g, x, y, e)
	}
	return x, y
}

// P3.1: games with only one equilibrium.
func TestSolveExamples(t *testing.T) {
	cases := []struct {
		g    game
		x, y []api.Frac
	}{
		{matching(), mixOf(1, 1), mixOf(1, 1)},
		{prisoners(), mixOf(0, 1), mixOf(0, 1)},
		{game{[][]int{{-20}}, [][]int{{20}}}, mixOf(1), mixOf(1)},
		{game{[][]int{{0, 0, 0, 0}}, [][]int{{3, 4, 2, 3}}}, mixOf(1), mixOf(0, 1, 0, 0)},
		{game{[][]int{{-7}, {-9}, {-6}}, [][]int{{0}, {0}, {0}}}, mixOf(0, 0, 1), mixOf(1)},
		// The first side wants to be where the second one is, which does not.
		{game{[][]int{{20, -19}, {-17, 13}}, [][]int{{-7, 20}, {19, -20}}}, mixOf(39, 27), mixOf(32, 37)},
		{opposed([][]int{{1, 0, 0, 0}, {0, 2, 0, 0}, {0, 0, 3, 0}, {0, 0, 0, 4}}), mixOf(12, 6, 4, 3), mixOf(12, 6, 4, 3)},
		// Each act beats the one before it.
		{opposed([][]int{{0, -1, 1}, {1, 0, -1}, {-1, 1, 0}}), mixOf(1, 1, 1), mixOf(1, 1, 1)},
		{opposed([][]int{{0, -2, 3}, {2, 0, -5}, {-3, 5, 0}}), mixOf(5, 3, 2), mixOf(5, 3, 2)},
		// The third column is worse than the two others together, but than neither.
		{opposed([][]int{{4, 0, 3}, {0, 4, 3}}), mixOf(1, 1), mixOf(1, 1, 0)},
		{opposed([][]int{{4, 0}, {0, 4}, {1, 1}}), mixOf(1, 1, 0), mixOf(1, 1)},
		// A row that gains less than nothing is not better than rows that are not there.
		{game{[][]int{{-20, -20}}, [][]int{{-20, -19}}}, mixOf(1), mixOf(0, 1)},
	}
	for _, c := range cases {
		if x, y := wantEquilibrium(t, c.g); !slices.Equal(x, c.x) || !slices.Equal(y, c.y) {
			t.Errorf("Solve%v = %v, %v; want %v, %v", c.g, x, y, c.x, c.y)
		}
		if e := nash.Check(c.g.a, c.g.b, c.x, c.y); e != api.OK {
			t.Errorf("Check%v of %v, %v = %d", c.g, c.x, c.y, e)
		}
	}
}

// P3.1, P3.4: every game has an equilibrium, and most of these small ones
// have acts that are as good as each other.
func TestSolveSmallGames(t *testing.T) {
	games := slices.Concat(smallGames(1, 1, -20, 0, 20), smallGames(1, 2, -1, 0, 1), smallGames(2, 1, -1, 0, 1),
		smallGames(1, 4, 0, 1), smallGames(4, 1, 0, 1), smallGames(2, 2, -1, 0, 1),
		smallGames(2, 3, 0, 1), smallGames(3, 2, 0, 1))
	for _, g := range games {
		wantEquilibrium(t, g)
	}
}

// P3.1, P3.4: games of all sizes and kinds.
func TestSolveDrawnGames(t *testing.T) {
	for _, g := range drawnGames(1, 60) {
		wantEquilibrium(t, g)
	}
}

// P3.1: games of two numbers, in which many sets of acts are as good as each
// other without being an equilibrium.
func TestSolveLargeFlatGames(t *testing.T) {
	r := rand.New(rand.NewSource(2))
	for i := range 3000 {
		rows, columns := 3+i%2, 3+i/2%2
		wantEquilibrium(t, game{drawnTable(r, rows, columns, 0, 1), drawnTable(r, rows, columns, 0, 1)})
	}
}

// P3.4: in an equilibrium each act with a positive probability is a best one.
func TestActsAreBest(t *testing.T) {
	for _, g := range drawnGames(3, 10) {
		x, y := wantEquilibrium(t, g)
		rows, columns := rowGains(g.a, y), columnGains(g.b, x)
		for i, f := range x {
			if f.Num > 0 && rows[i].Cmp(greatest(rows)) < 0 {
				t.Errorf("Solve%v = %v, %v: row %d gains %v", g, x, y, i, rows)
			}
		}
		for j, f := range y {
			if f.Num > 0 && columns[j].Cmp(greatest(columns)) < 0 {
				t.Errorf("Solve%v = %v, %v: column %d gains %v", g, x, y, j, columns)
			}
		}
	}
}

// P3.1: Check tells equilibria from other mixes, as the terms do.
func TestCheckSmallMixes(t *testing.T) {
	found := map[api.Errno]int{}
	games := append(drawnGames(4, 3), smallGames(2, 2, 0, 1)...)
	for _, g := range games {
		for _, x := range gridMixes(len(g.a), 2) {
			for _, y := range gridMixes(len(g.a[0]), 3) {
				want := api.ErrAnswer
				if isEquilibrium(g, x, y) {
					want = api.OK
				}
				found[want]++
				if e := nash.Check(g.a, g.b, x, y); e != want {
					t.Fatalf("Check%v of %v, %v = %d, want %d", g, x, y, e, want)
				}
			}
		}
	}
	if found[api.OK] < 500 || found[api.ErrAnswer] < 500 {
		t.Errorf("equilibria and others: %v", found)
	}
}

// P3.1: an equilibrium in which one mix is exchanged for another one.
func TestCheckChangedMixes(t *testing.T) {
	r := rand.New(rand.NewSource(5))
	found := map[api.Errno]int{}
	for _, g := range drawnGames(5, 20) {
		x, y := wantEquilibrium(t, g)
		for i, changed := range [][2][]api.Frac{
			{x, drawnMix(r, len(y), 5)}, {drawnMix(r, len(x), 5), y}, {x, always(r.Intn(len(y)), len(y))}, {always(r.Intn(len(x)), len(x)), y},
		} {
			want := api.ErrAnswer
			if isEquilibrium(g, changed[0], changed[1]) {
				want = api.OK
			}
			found[want]++
			if e := nash.Check(g.a, g.b, changed[0], changed[1]); e != want {
				t.Fatalf("Check%v of %v, %d: %d, want %d", g, changed, i, e, want)
			}
		}
	}
	if found[api.OK] < 500 || found[api.ErrAnswer] < 500 {
		t.Errorf("equilibria and others: %v", found)
	}
}

// P3.1: several equilibria of one game, mixes of which only one side would
// leave, and mixes that miss an equilibrium by very little.
func TestCheckExamples(t *testing.T) {
	meeting := game{[][]int{{2, 0}, {0, 1}}, [][]int{{1, 0}, {0, 2}}}
	free := game{[][]int{{0, 0}}, [][]int{{1, 1}}}
	bound := game{[][]int{{0, 0}}, [][]int{{1, 2}}}
	least := 1 << 24
	cases := []struct {
		g    game
		x, y []api.Frac
		e    api.Errno
	}{
		{meeting, mixOf(1, 0), mixOf(1, 0), api.OK},
		{meeting, mixOf(0, 1), mixOf(0, 1), api.OK},
		{meeting, mixOf(2, 1), mixOf(1, 2), api.OK},
		{meeting, mixOf(1, 2), mixOf(2, 1), api.ErrAnswer},
		{meeting, mixOf(1, 0), mixOf(0, 1), api.ErrAnswer},
		{meeting, mixOf(1, 1), mixOf(1, 2), api.ErrAnswer},
		{meeting, mixOf(2, 1), mixOf(1, 1), api.ErrAnswer},
		{matching(), mixOf(1, 0), mixOf(1, 1), api.ErrAnswer},
		{matching(), mixOf(1, 1), mixOf(0, 1), api.ErrAnswer},
		{prisoners(), mixOf(0, 1), mixOf(0, 1), api.OK},
		{prisoners(), mixOf(1, 0), mixOf(0, 1), api.ErrAnswer}, // only the first side gains by leaving
		{prisoners(), mixOf(0, 1), mixOf(1, 0), api.ErrAnswer}, // only the second one
		{prisoners(), mixOf(1, 0), mixOf(1, 0), api.ErrAnswer},
		{prisoners(), mixOf(1, least-1), mixOf(0, 1), api.ErrAnswer},
		{prisoners(), mixOf(0, 1), mixOf(1, least-1), api.ErrAnswer},
		{free, mixOf(1), mixOf(1, 0), api.OK},
		{free, mixOf(1), mixOf(0, 1), api.OK},
		{free, mixOf(1), mixOf(1, least-1), api.OK},
		{free, mixOf(1), mixOf(3, 8), api.OK},
		{bound, mixOf(1), mixOf(1, least-1), api.ErrAnswer},
		{matching(), mixOf(least/2+1, least/2-1), mixOf(1, 1), api.ErrAnswer},
		{matching(), mixOf(1, 1), mixOf(least/2-1, least/2+1), api.ErrAnswer},
		{matching(), mixOf(least/2-1, least/2+1), mixOf(least/2-1, least/2+1), api.ErrAnswer},
		// The first side could gain 1 / 2^46 more.
		{game{matching().a, [][]int{{0, 0}, {0, 0}}}, mixOf(1, least-1), mixOf(least/2-1, least/2+1), api.ErrAnswer},
		{game{matching().a, [][]int{{0, 0}, {0, 0}}}, mixOf(0, 1), mixOf(least/2-1, least/2+1), api.OK},
	}
	for _, c := range cases {
		if e := nash.Check(c.g.a, c.g.b, c.x, c.y); e != c.e {
			t.Errorf("Check%v of %v, %v = %d, want %d", c.g, c.x, c.y, e, c.e)
		}
	}
}

// P3.1: the gains of both sides.
func TestGainsExamples(t *testing.T) {
	high := [][]int{{20, 20}, {20, 20}}
	least := 1 << 24
	cases := []struct {
		g    game
		x, y []api.Frac
		f, h api.Frac
	}{
		{matching(), mixOf(1, 1), mixOf(1, 1), whole(0), whole(0)},
		{matching(), mixOf(3, 1), mixOf(2, 1), api.Frac{Num: 1, Den: 6}, api.Frac{Num: -1, Den: 6}},
		{prisoners(), mixOf(1, 0), mixOf(0, 1), whole(0), whole(5)},
		{prisoners(), mixOf(0, 1), mixOf(1, 0), whole(5), whole(0)},
		{prisoners(), mixOf(1, 1), mixOf(1, 2), api.Frac{Num: 5, Den: 3}, api.Frac{Num: 5, Den: 2}},
		{game{[][]int{{1, 2, 3}}, [][]int{{-4, -5, -6}}}, mixOf(1), mixOf(1, 0, 3), api.Frac{Num: 5, Den: 2}, api.Frac{Num: -11, Den: 2}},
		{opposed(high), mixOf(1, least-1), mixOf(least-1, 1), whole(20), whole(-20)},
		{opposed([][]int{{20, 0}, {0, 0}}), mixOf(least-1, 1), mixOf(least-1, 1),
			api.Frac{Num: 5 * (least - 1) * (least - 1), Den: 1 << 46}, api.Frac{Num: -5 * (least - 1) * (least - 1), Den: 1 << 46}},
	}
	for _, c := range cases {
		f, h, e := nash.Gains(c.g.a, c.g.b, c.x, c.y)
		if f != c.f || h != c.h || e != api.OK {
			t.Errorf("Gains%v of %v, %v = %v, %v, %d; want %v, %v", c.g, c.x, c.y, f, h, e, c.f, c.h)
		}
	}
}

// P3.1: the gains of drawn mixes are the sums of the terms.
func TestGainsDrawn(t *testing.T) {
	r := rand.New(rand.NewSource(6))
	for i, g := range drawnGames(6, 10) {
		limit := []int{3, 30, 1000}[i%3]
		x, y := drawnMix(r, len(g.a), limit), drawnMix(r, len(g.a[0]), limit)
		f, h, e := nash.Gains(g.a, g.b, x, y)
		if f != frac(gainOf(g.a, x, y)) || h != frac(gainOf(g.b, x, y)) || e != api.OK {
			t.Errorf("Gains%v of %v, %v = %v, %v, %d", g, x, y, f, h, e)
		}
	}
}

// wideMix returns a mix of three acts with the denominators p*q, p*r and q*r,
// whose least common multiple is p*q*r.
func wideMix(p, q, r int) []api.Frac {
	for a := 1; ; a++ {
		for b := 1; a*r+b*q < p*q*r; b++ {
			c := (p*q*r - a*r - b*q) / p
			x := []api.Frac{{Num: a, Den: p * q}, {Num: b, Den: p * r}, {Num: c, Den: q * r}}
			if a*r+b*q+c*p == p*q*r && frac(rat(x[0])) == x[0] && frac(rat(x[1])) == x[1] && frac(rat(x[2])) == x[2] {
				return x
			}
		}
	}
}

// P3.1: the least common multiple of a mix is at most 2^24.
func TestMultiplesOfMixes(t *testing.T) {
	a := [][]int{{1, 1, 1}, {1, 1, 1}, {1, 1, 1}}
	even := mixOf(1, 1, 1)
	cases := []struct {
		x []api.Frac
		e api.Errno
	}{
		{wideMix(255, 256, 257), api.OK},     // 2^24 - 2^8
		{wideMix(255, 257, 259), api.ErrArg}, // the denominators are less than 2^17
		{wideMix(509, 511, 512), api.ErrArg},
		{mixOf(0, 1, 1<<24-1), api.OK},
		{mixOf(1<<23-1, 1<<23, 1), api.OK},
		{mixOf(0, 1, 1<<24), api.ErrArg},
		{mixOf(1, 1<<24-1, 1), api.ErrArg},
		{mixOf(1, 0, 1<<25-1), api.ErrArg},
		{mixOf(1<<40, 1, 1<<40), api.ErrArg},
	}
	for _, c := range cases {
		if isMix(c.x, 3) != (c.e == api.OK) {
			t.Fatalf("%v is a mix: %t", c.x, isMix(c.x, 3))
		}
		if e := nash.Check(a, a, c.x, even); e != c.e {
			t.Errorf("Check of %v as x = %d, want %d", c.x, e, c.e)
		}
		if e := nash.Check(a, a, even, c.x); e != c.e {
			t.Errorf("Check of %v as y = %d, want %d", c.x, e, c.e)
		}
		want := api.Frac{}
		if c.e == api.OK {
			want = whole(1)
		}
		if f, h, e := nash.Gains(a, a, c.x, c.x); f != want || h != want || e != c.e {
			t.Errorf("Gains of %v = %v, %v, %d", c.x, f, h, e)
		}
	}
}

// wrongMixes are no mixes of two acts, each for one reason.
func wrongMixes() map[string][]api.Frac {
	half := api.Frac{Num: 1, Den: 2}
	return map[string][]api.Frac{
		"nil":              nil,
		"empty":            {},
		"one act":          {whole(1)},
		"three acts":       {half, half, whole(0)},
		"very many":        make([]api.Frac, 100000),
		"less than 1":      {half, {Num: 1, Den: 3}},
		"more than 1":      {half, {Num: 2, Den: 3}},
		"nothing":          {whole(0), whole(0)},
		"two":              {whole(1), whole(1)},
		"negative":         {whole(2), whole(-1)},
		"negative half":    {{Num: -1, Den: 2}, {Num: 3, Den: 2}},
		"not reduced":      {{Num: 2, Den: 4}, half},
		"last not reduced": {half, {Num: 2, Den: 4}},
		"0/2":              {{Num: 0, Den: 2}, whole(1)},
		"0/0":              {{}, whole(1)},
		"last 0/0":         {whole(1), {}},
		"1/0":              {{Num: 1, Den: 0}, whole(0)},
		"both negative":    {{Num: -1, Den: -2}, half},
		"0/-1":             {whole(1), {Num: 0, Den: -1}},
		"least":            {{Num: math.MinInt, Den: math.MinInt}, whole(0)},
		"least numbers":    {whole(math.MinInt), whole(math.MinInt)},
		"sum that wraps":   {whole(math.MaxInt), whole(math.MinInt + 2)},
		"greatest":         {{Num: 1, Den: math.MaxInt}, {Num: math.MaxInt - 1, Den: math.MaxInt}},
		"least den":        {{Num: 1, Den: math.MinInt}, whole(1)},
		"4/2":              {{Num: 4, Den: 2}, whole(-1)},
		// Nearly 1; the least common multiple, 3 * 2^62, is not an int.
		"multiple that wraps": {{Num: 1, Den: 3}, {Num: 3074457345618258603, Den: 1 << 62}},
	}
}

// P3.1: lists of three probabilities that are no mixes, though at least their
// sum seems to be 1.
func TestWrongMixesOfThree(t *testing.T) {
	zero := [][]int{{0, 0, 0}, {0, 0, 0}, {0, 0, 0}}
	third := api.Frac{Num: 1, Den: 3}
	for _, x := range [][]api.Frac{
		{whole(1), whole(1), whole(-1)},
		{whole(1), {Num: 1, Den: 2}, {Num: -1, Den: 2}},
		{{Num: -1, Den: 3}, {Num: 2, Den: 3}, {Num: 2, Den: 3}},
		{third, {Num: 2, Den: 6}, third},
		{{Num: 3, Den: 3}, whole(0), whole(0)},
		{whole(math.MaxInt), whole(math.MaxInt), whole(3)}, // 2^64 + 1
		{whole(math.MinInt), whole(math.MaxInt), whole(2)},
	} {
		if e := nash.Check(zero, zero, x, mixOf(1, 1, 1)); e != api.ErrArg {
			t.Errorf("Check of %v as x = %d", x, e)
		}
		if e := nash.Check(zero, zero, mixOf(1, 1, 1), x); e != api.ErrArg {
			t.Errorf("Check of %v as y = %d", x, e)
		}
		if f, h, e := nash.Gains(zero, zero, x, x); f != (api.Frac{}) || h != (api.Frac{}) || e != api.ErrArg {
			t.Errorf("Gains of %v = %v, %v, %d", x, f, h, e)
		}
	}
}

// P3.1: what is not a mix has ErrArg, also where the other mix is one, or the
// two would be no equilibrium.
func TestWrongMixes(t *testing.T) {
	zero := [][]int{{0, 0}, {0, 0}}
	for name, x := range wrongMixes() {
		for _, g := range []game{matching(), prisoners(), {zero, zero}} {
			for _, other := range [][]api.Frac{mixOf(1, 1), mixOf(1, 0), mixOf(0, 1), x} {
				for _, pair := range [][2][]api.Frac{{x, other}, {other, x}} {
					if e := nash.Check(g.a, g.b, pair[0], pair[1]); e != api.ErrArg {
						t.Errorf("%s: Check = %d", name, e)
					}
					if f, h, e := nash.Gains(g.a, g.b, pair[0], pair[1]); f != (api.Frac{}) || h != (api.Frac{}) || e != api.ErrArg {
						t.Errorf("%s: Gains = %v, %v, %d", name, f, h, e)
					}
				}
			}
		}
	}
}

// P3.1: x has a probability for each row, and y one for each column.
func TestMixesOfTheOtherSide(t *testing.T) {
	a := [][]int{{0, 0, 0}, {0, 0, 0}}
	cases := []struct {
		x, y []api.Frac
		e    api.Errno
	}{
		{mixOf(1, 1), mixOf(1, 1, 1), api.OK},
		{mixOf(1, 1, 1), mixOf(1, 1), api.ErrArg},
		{mixOf(1, 1), mixOf(1, 1), api.ErrArg},
		{mixOf(1, 1, 1), mixOf(1, 1, 1), api.ErrArg},
		{mixOf(1, 1, 0, 0), mixOf(1, 1, 1, 0), api.ErrArg},
	}
	for _, c := range cases {
		if e := nash.Check(a, a, c.x, c.y); e != c.e {
			t.Errorf("Check of %v, %v = %d, want %d", c.x, c.y, e, c.e)
		}
		if _, _, e := nash.Gains(a, a, c.x, c.y); e != c.e {
			t.Errorf("Gains of %v, %v = %d, want %d", c.x, c.y, e, c.e)
		}
	}
}

// drawnStep returns a number that can be added to all of these in a game.
func drawnStep(r *rand.Rand, numbers []int) int {
	least, most := -20-slices.Min(numbers), 20-slices.Max(numbers)
	return least + r.Intn(most-least+1)
}

// P3.4: adding a number to a column of a, or to a row of b, changes no
// equilibrium.
func TestAddingChangesNothing(t *testing.T) {
	r := rand.New(rand.NewSource(7))
	for _, g := range drawnGames(7, 4) {
		other := game{turned(g.a), clone(g.b)}
		for _, list := range [][]int{other.a[r.Intn(len(other.a))], other.b[r.Intn(len(other.b))]} {
			step := drawnStep(r, list)
			for i := range list {
				list[i] += step
			}
		}
		other.a = turned(other.a)
		x, y := wantEquilibrium(t, g)
		again, after := wantEquilibrium(t, other)
		if e := nash.Check(other.a, other.b, x, y); e != api.OK {
			t.Errorf("Check%v of %v, %v, which Solve%v returns: %d", other, x, y, g, e)
		}
		if e := nash.Check(g.a, g.b, again, after); e != api.OK {
			t.Errorf("Check%v of %v, %v, which Solve%v returns: %d", g, again, after, other, e)
		}
		for _, x := range gridMixes(len(g.a), 2) {
			for _, y := range gridMixes(len(g.a[0]), 2) {
				if e, f := nash.Check(g.a, g.b, x, y), nash.Check(other.a, other.b, x, y); e != f {
					t.Errorf("Check of %v, %v = %d, and %d after adding", x, y, e, f)
				}
			}
		}
	}
}

// P3.4: exchanging the sides exchanges the mixes.
func TestExchangedSides(t *testing.T) {
	for _, g := range drawnGames(8, 4) {
		other := g.exchanged()
		x, y := wantEquilibrium(t, g)
		if e := nash.Check(other.a, other.b, y, x); e != api.OK {
			t.Errorf("Check%v of %v, %v = %d", other, y, x, e)
		}
		for _, x := range gridMixes(len(g.a), 2) {
			for _, y := range gridMixes(len(g.a[0]), 2) {
				if e, f := nash.Check(g.a, g.b, x, y), nash.Check(other.a, other.b, y, x); e != f {
					t.Errorf("Check%v of %v, %v = %d, and %d with the sides exchanged", g, x, y, e, f)
				}
				f1, h1, _ := nash.Gains(g.a, g.b, x, y)
				f2, h2, _ := nash.Gains(other.a, other.b, y, x)
				if f1 != h2 || h1 != f2 {
					t.Errorf("Gains%v of %v, %v: %v, %v, and %v, %v with the sides exchanged", g, x, y, f1, h1, f2, h2)
				}
			}
		}
	}
}
