package stop_test

import (
	"math"
	"math/big"
	"math/rand"
	"slices"
	"testing"

	"turndown/api"
	"turndown/stop"
)

func sure(number int) [][2]int { return [][2]int{{number, 16}} }

func leastOnes() []int {
	list := []int{math.MinInt, -1, 1001, math.MaxInt}
	for least := 0; least <= 1000; least += 25 {
		list = append(list, least, least+1)
	}
	return list
}

// P2.3: the chapter's example, no offers, sure ones, and equal numbers.
func TestProphetExamples(t *testing.T) {
	coin := [][2]int{{10, 8}, {0, 8}}
	cases := []struct {
		offers     [][][2]int
		most, best api.Frac
	}{
		{nil, whole(0), whole(0)},
		{[][][2]int{}, whole(0), whole(0)},
		{[][][2]int{sure(1), coin}, api.Frac{Num: 11, Den: 2}, whole(5)},
		{[][][2]int{coin, sure(1)}, api.Frac{Num: 11, Den: 2}, api.Frac{Num: 11, Den: 2}},
		{[][][2]int{sure(0)}, whole(0), whole(0)},
		{[][][2]int{sure(1000)}, whole(1000), whole(1000)},
		{[][][2]int{sure(3), sure(7), sure(5)}, whole(7), whole(7)},
		{[][][2]int{coin}, whole(5), whole(5)},
		{[][][2]int{coin, coin}, api.Frac{Num: 15, Den: 2}, api.Frac{Num: 15, Den: 2}},
		{[][][2]int{{{4, 4}, {0, 8}, {4, 4}}}, whole(2), whole(2)},
		{[][][2]int{{{1, 1}, {2, 15}}}, api.Frac{Num: 31, Den: 16}, api.Frac{Num: 31, Den: 16}},
		// The first one is rejected below the mean 5 of the second one.
		{[][][2]int{{{4, 8}, {6, 8}}, coin}, api.Frac{Num: 15, Den: 2}, api.Frac{Num: 11, Den: 2}},
	}
	for _, c := range cases {
		most, best, e := stop.Prophet(c.offers)
		if most != c.most || best != c.best || e != api.OK {
			t.Errorf("Prophet(%v) = %v, %v, %d; want %v, %v", c.offers, most, best, e, c.most, c.best)
		}
	}
}

// P2.3 and P4: the mean of the greatest number over all outcomes, and the
// best one of all lists of bounds.
func TestProphetDrawn(t *testing.T) {
	r := rand.New(rand.NewSource(1))
	for i := range 120 {
		offers := drawnOffers(r, i%4, 4, []int{3, 12, 1001}[i%3])
		most, best, e := stop.Prophet(offers)
		wantFrac(t, "Prophet", most, e, mean(outcomes(offers), greatest))
		wantFrac(t, "the best rule", best, e, bestBounds(offers))
	}
}

// P2.3: rules that use all that came before gain no more than the best one.
func TestHistoriesGainNoMore(t *testing.T) {
	offers := [][][2]int{{{3, 4}, {8, 12}}, {{9, 5}, {2, 11}}, {{7, 6}, {12, 10}}}
	_, best, e := stop.Prophet(offers)
	if e != api.OK {
		t.Fatal(e)
	}
	all := outcomes(offers)
	// A rule has a bit for each of the 2 + 4 + 8 beginnings of outcomes.
	greatestGain := new(big.Rat)
	for rule := range 1 << 14 {
		gain := rat(mean(all, func(numbers []int) int {
			node := 0
			for i, number := range numbers {
				node = 2*node + 1
				if number == offers[i][1][0] {
					node++
				}
				if rule>>(node-1)&1 == 1 {
					return number
				}
			}
			return 0
		}))
		if gain.Cmp(greatestGain) > 0 {
			greatestGain = gain
		}
	}
	wantFrac(t, "the best rule", best, e, frac(greatestGain))
}

// P2.3: the chapter's example, and bounds that accept all offers or none.
func TestThresholdExamples(t *testing.T) {
	offers := [][][2]int{sure(1), {{10, 8}, {0, 8}}}
	cases := []struct {
		offers [][][2]int
		least  int
		f      api.Frac
	}{
		{offers, 1, whole(1)},
		{offers, 2, whole(5)},
		{offers, 10, whole(5)},
		{offers, 11, whole(0)},
		{offers, 0, whole(1)},
		{offers, math.MinInt, whole(1)},
		{offers, math.MaxInt, whole(0)},
		{nil, 0, whole(0)},
		{nil, math.MinInt, whole(0)},
		{[][][2]int{{{0, 8}, {6, 8}}, sure(4)}, 0, whole(3)}, // an offer of 0 is accepted
		{[][][2]int{{{0, 8}, {6, 8}}, sure(4)}, 1, whole(5)},
		{[][][2]int{{{0, 8}, {6, 8}}, sure(4)}, 5, whole(3)},
		{[][][2]int{{{5, 1}, {5, 1}, {0, 14}}}, 5, api.Frac{Num: 5, Den: 8}},
	}
	for _, c := range cases {
		got, e := stop.Threshold(c.offers, c.least)
		wantFrac(t, "Threshold", got, e, c.f)
	}
}

// P2.3: the first number that is at least least, over all outcomes.
func TestThresholdDrawn(t *testing.T) {
	r := rand.New(rand.NewSource(2))
	for i := range 40 {
		limit := []int{3, 12, 1001}[i%3]
		offers := drawnOffers(r, i%5, 4, limit)
		all := outcomes(offers)
		for _, least := range append([]int{math.MinInt, -1, math.MaxInt}, r.Perm(limit + 1)[:4]...) {
			bounds := slices.Repeat([]int{least}, len(offers))
			got, e := stop.Threshold(offers, least)
			wantFrac(t, "Threshold", got, e, mean(all, func(numbers []int) int { return firstAtLeast(numbers, bounds) }))
		}
	}
}

// P2.4 and P5: the prophet expects at most twice as much as the best rule,
// and as the best bound for all offers; no bound gains more than the best
// rule, and no rule more than the prophet.
func TestProphetBound(t *testing.T) {
	r := rand.New(rand.NewSource(3))
	// The bound is nearly reached: 1, and then 16 with the probability 1/16.
	rare := [][2]int{{16, 1}, {0, 15}}
	all := [][][][2]int{nil, {sure(1), rare}, {rare, sure(1)}}
	for i := range 150 {
		all = append(all, drawnOffers(r, i%7, 1+i%4, []int{3, 12, 1001}[i%3]))
	}
	for _, offers := range all {
		most, best, e := stop.Prophet(offers)
		if e != api.OK || rat(best).Cmp(rat(most)) > 0 {
			t.Fatalf("Prophet(%v) = %v, %v, %d", offers, most, best, e)
		}
		bounded := new(big.Rat)
		for least := range api.MaxGain + 2 {
			f, e := stop.Threshold(offers, least)
			if e != api.OK || rat(f).Cmp(rat(best)) > 0 {
				t.Fatalf("Threshold(%v, %d) = %v, %d; the best rule gains %v", offers, least, f, e, best)
			}
			if rat(f).Cmp(bounded) > 0 {
				bounded = rat(f)
			}
		}
		halfOfMost := new(big.Rat).Quo(rat(most), big.NewRat(2, 1))
		if rat(best).Cmp(halfOfMost) < 0 || bounded.Cmp(halfOfMost) < 0 {
			t.Errorf("Prophet(%v) = %v, %v; the best bound gains %v", offers, most, best, bounded)
		}
	}
}

// power is base to the sixth power.
func power(base int64) int64 {
	return base * base * base * base * base * base
}

// P2.3: six offers of eight pairs are the most; their results are exact.
func TestOffersAtLimits(t *testing.T) {
	ascending := []int{0, 3, 7, 250, 500, 501, 999, 1000}
	var offer [][2]int
	for _, number := range ascending {
		offer = append(offer, [2]int{number, 2})
	}
	slices.Reverse(offer)
	offers := slices.Repeat([][][2]int{offer}, api.MaxOffers)
	// The greatest number is at most one of eight if all six are.
	want := new(big.Rat)
	for less, number := range ascending {
		count := power(int64(less)+1) - power(int64(less))
		want.Add(want, big.NewRat(int64(number)*count, power(8)))
	}
	// What waiting gains, from the last offer to the first one.
	best := new(big.Rat)
	for range offers {
		total := new(big.Rat)
		for _, number := range ascending {
			if x := big.NewRat(int64(number), 1); x.Cmp(best) > 0 {
				total.Add(total, x)
			} else {
				total.Add(total, best)
			}
		}
		best = total.Quo(total, big.NewRat(8, 1))
	}
	most, gained, e := stop.Prophet(offers)
	wantFrac(t, "Prophet", most, e, frac(want))
	wantFrac(t, "the best rule", gained, e, frac(best))
}

// P2.3: what are no offers.
func TestWrongOffers(t *testing.T) {
	good := [][2]int{{10, 8}, {0, 8}}
	wrong := map[string][][][2]int{
		"seven offers":       slices.Repeat([][][2]int{good}, 7),
		"many offers":        slices.Repeat([][][2]int{good}, 100000),
		"seven empty offers": make([][][2]int, 7),
		"nil offer":          {nil},
		"empty offer":        {{}},
		"sum 15":             {{{1, 15}}},
		"sum 17":             {{{1, 8}, {1, 9}}},
		"sum 32":             {{{1, 16}, {1, 16}}},
		"weight 17":          {{{1, 17}}},
		"weight 0":           {{{1, 16}, {2, 0}}},
		"negative weight":    {{{1, 16}, {2, -1}, {3, 1}}},
		"balanced weights":   {{{1, 17}, {2, -1}}},
		"least weight":       {{{1, math.MinInt}}},
		"greatest weight":    {{{1, math.MaxInt}}},
		"weights that wrap":  {{{1, math.MaxInt}, {1, math.MaxInt}, {1, 16}, {1, 2}}},
		"negative number":    {{{-1, 16}}},
		"number 1001":        {{{1001, 16}}},
		"least number":       {{{math.MinInt, 16}}},
		"greatest number":    {{{math.MaxInt, 16}}},
		"nine pairs":         {{{1, 2}, {1, 2}, {1, 2}, {1, 2}, {1, 2}, {1, 2}, {1, 2}, {1, 1}, {1, 1}}},
		"very many pairs":    {make([][2]int, 100000)},
		"last offer":         {good, good, {{1, 15}}},
		"first offer":        {{{1, 15}}, good, good},
	}
	for name, offers := range wrong {
		if a, b, e := stop.Prophet(offers); a != (api.Frac{}) || b != (api.Frac{}) || e != api.ErrArg {
			t.Errorf("%s: Prophet = %v, %v, %d; want ErrArg", name, a, b, e)
		}
		for _, least := range leastOnes() {
			if f, e := stop.Threshold(offers, least); f != (api.Frac{}) || e != api.ErrArg {
				t.Errorf("%s: Threshold = %v, %d; want ErrArg", name, f, e)
			}
		}
	}
}
