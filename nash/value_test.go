package nash_test

import (
	"math/big"
	"math/rand"
	"testing"

	"turndown/api"
	"turndown/nash"
)

// wantSecure tests what Value and Secure return: as x secures the value
// against each column, and y against each row, no other value is possible.
func wantSecure(t *testing.T, a [][]int) {
	t.Helper()
	value, e := nash.Value(a)
	if e != api.OK || value.Den < 1 || frac(rat(value)) != value {
		t.Fatalf("Value(%v) = %v, %d", a, value, e)
	}
	x, y, e := nash.Secure(a)
	if e != api.OK || !isMix(x, len(a)) || !isMix(y, len(a[0])) {
		t.Fatalf("Secure(%v) = %v, %v, %d", a, x, y, e)
	}
	for _, gain := range columnGains(a, x) {
		if gain.Cmp(rat(value)) < 0 {
			t.Errorf("Secure(%v) has %v, which gains %v, less than %v", a, x, gain, value)
		}
	}
	for _, loss := range rowGains(a, y) {
		if loss.Cmp(rat(value)) > 0 {
			t.Errorf("Secure(%v) has %v, which loses %v, more than %v", a, y, loss, value)
		}
	}
}

// P3.3: values of games with pure equilibria, and with none.
func TestValueExamples(t *testing.T) {
	cases := []struct {
		a     [][]int
		value api.Frac
	}{
		{[][]int{{1, -1}, {-1, 1}}, whole(0)},
		{[][]int{{3, 1}, {0, 2}}, api.Frac{Num: 3, Den: 2}},
		{[][]int{{0}}, whole(0)},
		{[][]int{{-20}}, whole(-20)},
		{[][]int{{20}}, whole(20)},
		{[][]int{{4, -3, 2, 7}}, whole(-3)},
		{[][]int{{4}, {-3}, {7}}, whole(7)},
		{[][]int{{1, 2}, {3, 4}}, whole(3)},
		{[][]int{{2, 1}, {4, 3}}, whole(3)},
		{[][]int{{-3, -1}, {0, -2}}, api.Frac{Num: -3, Den: 2}},
		{[][]int{{-6, 1}, {2, -5}}, api.Frac{Num: -2, Den: 1}},
		{[][]int{{1, 0, 0, 0}, {0, 2, 0, 0}, {0, 0, 3, 0}, {0, 0, 0, 4}}, api.Frac{Num: 12, Den: 25}},
		{[][]int{{0, -2, 3}, {2, 0, -5}, {-3, 5, 0}}, whole(0)},
		{[][]int{{4, 0, 3}, {0, 4, 3}}, whole(2)},
		{[][]int{{4, 0}, {0, 4}, {1, 1}}, whole(2)},
		{[][]int{{-20, 20}, {20, -19}}, api.Frac{Num: 20, Den: 79}},
		{[][]int{{5, 5}, {5, 5}, {5, 5}}, whole(5)},
	}
	for _, c := range cases {
		value, e := nash.Value(c.a)
		wantFrac(t, "Value", value, e, c.value)
		wantSecure(t, c.a)
	}
}

// P3.3: without a pure equilibrium, both rows gain the same, and so do both
// columns.
func TestValueOfTwoByTwo(t *testing.T) {
	r := rand.New(rand.NewSource(21))
	mixed := 0
	for range 3000 {
		a := drawnTable(r, 2, 2, -20, 20)
		p, q, s, u := a[0][0], a[0][1], a[1][0], a[1][1]
		lower, upper := max(min(p, q), min(s, u)), min(max(p, s), max(q, u))
		want := whole(lower)
		if lower < upper {
			want = frac(big.NewRat(int64(p*u-q*s), int64(p+u-q-s)))
			mixed++
		}
		value, e := nash.Value(a)
		wantFrac(t, "Value", value, e, want)
	}
	if mixed < 500 {
		t.Errorf("only %d games are mixed", mixed)
	}
}

// P3.3: games of all sizes.
func TestSecureGames(t *testing.T) {
	for _, g := range drawnGames(22, 30) {
		wantSecure(t, g.a)
		wantSecure(t, g.b)
	}
	for _, g := range smallGames(2, 3, 0, 1) {
		wantSecure(t, g.a)
	}
}

// P3.3: in every equilibrium of the game the first side gains the value, and
// the second one loses it.
func TestEveryEquilibriumHasTheValue(t *testing.T) {
	found := 0
	for _, g := range append(drawnGames(23, 4), smallGames(2, 2, 0, 1)...) {
		g := opposed(g.a)
		value, _ := nash.Value(g.a)
		x, y := wantEquilibrium(t, g)
		f, h, e := nash.Gains(g.a, g.b, x, y)
		wantFrac(t, "the first gain", f, e, value)
		wantFrac(t, "the second gain", h, e, frac(new(big.Rat).Neg(rat(value))))
		for _, x := range gridMixes(len(g.a), 2) {
			for _, y := range gridMixes(len(g.a[0]), 2) {
				if nash.Check(g.a, g.b, x, y) == api.OK {
					f, _, e := nash.Gains(g.a, g.b, x, y)
					wantFrac(t, "the first gain", f, e, value)
					found++
				}
			}
		}
	}
	if found < 500 {
		t.Errorf("only %d equilibria", found)
	}
}

// P3.3, P3.4: with the sides exchanged the value is the negative; more gains
// are a greater value.
func TestValueOfChangedGames(t *testing.T) {
	r := rand.New(rand.NewSource(24))
	for _, g := range drawnGames(24, 8) {
		value, _ := nash.Value(g.a)
		other, e := nash.Value(turned(opposed(g.a).b))
		wantFrac(t, "the value with the sides exchanged", other, e, frac(new(big.Rat).Neg(rat(value))))
		number := r.Intn(10)
		more := mapped(g.a, func(gain int) int { return min(gain/2+number, 20) })
		less := mapped(g.a, func(gain int) int { return gain / 2 })
		f, e := nash.Value(more)
		h, _ := nash.Value(less)
		wantFrac(t, "the value with more gains", f, e, frac(new(big.Rat).Add(rat(h), big.NewRat(int64(number), 1))))
	}
}
