package bayes_test

import (
	"math"
	"math/rand"
	"testing"

	"turndown/api"
	"turndown/bayes"
)

// forcedByHand is what Force must return.
func forcedByHand(n api.Network, v, value int) api.Network {
	want := clone(n)
	want.Parents[v] = nil
	want.Table[v] = []int{16 * value}
	return want
}

// P1.4: Force changes one variable and nothing else; its result is a network.
func TestForce(t *testing.T) {
	for _, n := range []api.Network{single(5), two(), common(), ten()} {
		for v := range n.Parents {
			for value := range 2 {
				got, e := bayes.Force(n, v, value)
				if !same(got, forcedByHand(n, v, value)) || e != api.OK {
					t.Errorf("Force(%v, %d, %d) = %v, %d", n, v, value, got, e)
				}
				f, e := bayes.Chance(got, [][2]int{{v, value}}, nil)
				wantFrac(t, "Chance of a forced value", f, e, api.Frac{Num: 1, Den: 1})
			}
		}
	}
}

// P1.4: Effect differs from being given a value; on itself it is 0 and 1.
func TestEffectExamples(t *testing.T) {
	// 0 is the cause of 1 and of 2; 1 is a cause of 2.
	confused := api.Network{Parents: [][]int{nil, {0}, {0, 1}}, Table: [][]int{{8}, {0, 16}, {4, 8, 12, 16}}}
	cases := []struct {
		n    api.Network
		v, w int
		a, b api.Frac
	}{
		{two(), 0, 1, api.Frac{Num: 1, Den: 4}, api.Frac{Num: 3, Den: 4}},
		{two(), 1, 0, api.Frac{Num: 1, Den: 2}, api.Frac{Num: 1, Den: 2}},
		{two(), 0, 0, api.Frac{Num: 0, Den: 1}, api.Frac{Num: 1, Den: 1}},
		{two(), 1, 1, api.Frac{Num: 0, Den: 1}, api.Frac{Num: 1, Den: 1}},
		{single(0), 0, 0, api.Frac{Num: 0, Den: 1}, api.Frac{Num: 1, Den: 1}},
		{confused, 1, 2, api.Frac{Num: 3, Den: 8}, api.Frac{Num: 7, Den: 8}},
		{common(), 0, 3, api.Frac{Num: 3, Den: 8}, api.Frac{Num: 3, Den: 4}},
	}
	for _, c := range cases {
		a, b, e := bayes.Effect(c.n, c.v, c.w)
		if a != c.a || b != c.b || e != api.OK {
			t.Errorf("Effect(%v, %d, %d) = %v, %v, %d; want %v, %v", c.n, c.v, c.w, a, b, e, c.a, c.b)
		}
	}
}

// P1.4 and P1.5: Effect of drawn networks; none on what is not a descendant;
// forcing a variable without parents is the same as being given its value.
func TestEffectDrawn(t *testing.T) {
	r := rand.New(rand.NewSource(6))
	networks := []api.Network{ten()}
	for i := range 30 {
		networks = append(networks, drawn(r, 1+i%6, i%2 == 0))
	}
	for _, n := range networks {
		for v := range n.Parents {
			none, all := jointOf(forcedByHand(n, v, 0)), jointOf(forcedByHand(n, v, 1))
			for w := range n.Parents {
				a, b, e := bayes.Effect(n, v, w)
				wantFrac(t, "Effect of 0", a, e, frac(none.of([2]int{w, 1})))
				wantFrac(t, "Effect of 1", b, e, frac(all.of([2]int{w, 1})))
				if w != v && !descends(n, w, v) && a != b {
					t.Errorf("%d of %v is no descendant of %d, but has %v and %v", w, n, v, a, b)
				}
				if len(n.Parents[v]) == 0 {
					wantGiven(t, n, v, w, [2]api.Frac{a, b})
				}
			}
		}
	}
}

func wantGiven(t *testing.T, n api.Network, v, w int, effects [2]api.Frac) {
	t.Helper()
	for value, effect := range effects {
		got, e := bayes.Chance(n, [][2]int{{w, 1}}, [][2]int{{v, value}})
		if e == api.ErrNone {
			continue
		}
		wantFrac(t, "Chance given a value without parents", got, e, effect)
	}
}

// P1.4: variables and values that Force and Effect reject.
func TestForceErrors(t *testing.T) {
	for _, c := range [][2]int{
		{-1, 0}, {2, 0}, {0, -1}, {0, 2}, {1, 16}, {math.MinInt, 0}, {math.MaxInt, 1}, {0, math.MinInt}, {0, math.MaxInt},
	} {
		if n, e := bayes.Force(two(), c[0], c[1]); n.Parents != nil || n.Table != nil || e != api.ErrArg {
			t.Errorf("Force(%v) = %v, %d; want ErrArg", c, n, e)
		}
	}
	for _, c := range [][2]int{
		{-1, 0}, {2, 0}, {0, -1}, {0, 2}, {math.MinInt, 0}, {math.MaxInt, 0}, {0, math.MinInt}, {0, math.MaxInt}, {2, 2},
	} {
		if a, b, e := bayes.Effect(two(), c[0], c[1]); a != (api.Frac{}) || b != (api.Frac{}) || e != api.ErrArg {
			t.Errorf("Effect(%v) = %v, %v, %d; want ErrArg", c, a, b, e)
		}
	}
}
