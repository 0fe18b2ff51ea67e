package stop_test

import (
	"math"
	"math/big"
	"testing"

	"turndown/api"
	"turndown/stop"
)

// P2.2: every order of up to 8 candidates is tried.
func TestChosenByTrying(t *testing.T) {
	for n := 1; n <= 8; n++ {
		orders := permutations(n)
		for skip := range n {
			best := 0
			for _, order := range orders {
				if accepted(order, skip) == n-1 {
					best++
				}
			}
			got, e := stop.Chosen(n, skip)
			wantFrac(t, "Chosen", got, e, frac(big.NewRat(int64(best), int64(len(orders)))))
		}
	}
}

// P2.2: the probabilities of all numbers to skip, and the smallest number of
// the greatest one.
func TestSecretaryForAll(t *testing.T) {
	for n := 1; n <= api.MaxCandidates; n++ {
		best, most := 0, new(big.Rat)
		for skip := range n {
			want := chosenByRecords(n, skip)
			got, e := stop.Chosen(n, skip)
			wantFrac(t, "Chosen", got, e, frac(want))
			if want.Cmp(most) > 0 {
				best, most = skip, want
			}
		}
		skip, f, e := stop.Secretary(n)
		if skip != best || f != frac(most) || e != api.OK {
			t.Errorf("Secretary(%d) = %d, %v, %d; want %d, %v", n, skip, f, e, best, most)
		}
	}
}

// P2.2: the chapter's examples; two candidates are the only ones of which
// skipping none and one have the same probability.
func TestSecretaryExamples(t *testing.T) {
	cases := []struct {
		n, skip int
		f       api.Frac
	}{
		{1, 0, api.Frac{Num: 1, Den: 1}},
		{2, 0, api.Frac{Num: 1, Den: 2}},
		{3, 1, api.Frac{Num: 1, Den: 2}},
		{4, 1, api.Frac{Num: 11, Den: 24}},
		{5, 2, api.Frac{Num: 13, Den: 30}},
		{6, 2, api.Frac{Num: 77, Den: 180}},
	}
	for _, c := range cases {
		skip, f, e := stop.Secretary(c.n)
		if skip != c.skip || f != c.f || e != api.OK {
			t.Errorf("Secretary(%d) = %d, %v, %d; want %d, %v", c.n, skip, f, e, c.skip, c.f)
		}
	}
	for n := 1; n <= api.MaxCandidates; n++ {
		first, e := stop.Chosen(n, 0)
		wantFrac(t, "Chosen without skipping", first, e, api.Frac{Num: 1, Den: n})
		last, e := stop.Chosen(n, n-1)
		wantFrac(t, "Chosen of the last one", last, e, api.Frac{Num: 1, Den: n})
	}
}

// P2.4: the probability of Secretary is at least 36 / 100.
func TestSecretaryBound(t *testing.T) {
	for n := 1; n <= api.MaxCandidates; n++ {
		if _, f, e := stop.Secretary(n); e != api.OK || rat(f).Cmp(big.NewRat(36, 100)) < 0 {
			t.Errorf("Secretary(%d) has %v, %d", n, f, e)
		}
	}
}

// P2.2: numbers that Secretary and Chosen reject.
func TestSecretaryErrors(t *testing.T) {
	for _, n := range []int{math.MinInt, -1, 0, 21, 1 << 32, math.MaxInt} {
		if skip, f, e := stop.Secretary(n); skip != 0 || f != (api.Frac{}) || e != api.ErrArg {
			t.Errorf("Secretary(%d) = %d, %v, %d; want ErrArg", n, skip, f, e)
		}
		for _, skip := range []int{math.MinInt, -1, 0, 1, 20, math.MaxInt} {
			if f, e := stop.Chosen(n, skip); f != (api.Frac{}) || e != api.ErrArg {
				t.Errorf("Chosen(%d, %d) = %v, %d; want ErrArg", n, skip, f, e)
			}
		}
	}
	for _, c := range [][2]int{{1, 1}, {1, -1}, {20, 20}, {20, 21}, {7, 7}, {7, math.MinInt}, {7, math.MaxInt}} {
		if f, e := stop.Chosen(c[0], c[1]); f != (api.Frac{}) || e != api.ErrArg {
			t.Errorf("Chosen(%v) = %v, %d; want ErrArg", c, f, e)
		}
	}
}
