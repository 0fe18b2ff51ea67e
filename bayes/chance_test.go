package bayes_test

import (
	"math"
	"math/big"
	"math/rand"
	"slices"
	"testing"

	"turndown/api"
	"turndown/bayes"
)

// P1.1: the chapter's examples, and single variables that are certain.
func TestJointExamples(t *testing.T) {
	cases := []struct {
		n      api.Network
		values []int
		want   api.Frac
	}{
		{two(), []int{0, 1}, api.Frac{Num: 1, Den: 8}},
		{two(), []int{0, 0}, api.Frac{Num: 3, Den: 8}},
		{two(), []int{1, 1}, api.Frac{Num: 3, Den: 8}},
		{two(), []int{1, 0}, api.Frac{Num: 1, Den: 8}},
		{single(0), []int{0}, api.Frac{Num: 1, Den: 1}},
		{single(0), []int{1}, api.Frac{Num: 0, Den: 1}},
		{single(16), []int{0}, api.Frac{Num: 0, Den: 1}},
		{single(16), []int{1}, api.Frac{Num: 1, Den: 1}},
		{single(5), []int{1}, api.Frac{Num: 5, Den: 16}},
		{single(6), []int{0}, api.Frac{Num: 5, Den: 8}},
		{common(), []int{1, 0, 1, 0}, api.Frac{Num: 3, Den: 32}},
		{common(), []int{1, 0, 0, 0}, api.Frac{Num: 0, Den: 1}},
	}
	for _, c := range cases {
		got, e := bayes.Joint(c.n, c.values)
		wantFrac(t, "Joint", got, e, c.want)
	}
}

// P1.1: the bit j of an index belongs to the j-th parent.
func TestThreeParents(t *testing.T) {
	n := api.Network{
		Parents: [][]int{nil, nil, nil, {0, 1, 2}},
		Table:   [][]int{{8}, {8}, {8}, {1, 2, 3, 5, 7, 11, 13, 15}},
	}
	for index, entry := range n.Table[3] {
		given := [][2]int{{0, index & 1}, {1, index >> 1 & 1}, {2, index >> 2 & 1}}
		got, e := bayes.Chance(n, [][2]int{{3, 1}}, given)
		wantFrac(t, "Chance", got, e, frac(big.NewRat(int64(entry), 16)))
	}
}

// P1.1: fractions of the greatest denominator are exact.
func TestSmallestChance(t *testing.T) {
	n := api.Network{Parents: make([][]int, 10), Table: make([][]int, 10)}
	for v := range n.Table {
		n.Table[v] = []int{1}
	}
	got, e := bayes.Joint(n, []int{1, 1, 1, 1, 1, 1, 1, 1, 1, 1})
	wantFrac(t, "Joint", got, e, api.Frac{Num: 1, Den: 1 << 40})
	got, e = bayes.Joint(n, make([]int, 10))
	wantFrac(t, "Joint", got, e, api.Frac{Num: 576650390625, Den: 1 << 40})
}

// P1.1 and P1.5: Joint of all assignments, and their sum.
func TestJointDrawn(t *testing.T) {
	r := rand.New(rand.NewSource(1))
	networks := []api.Network{ten()}
	for i := range 40 {
		networks = append(networks, drawn(r, 1+i%8, i%2 == 0))
	}
	for _, n := range networks {
		j, sum := jointOf(n), new(big.Rat)
		for i, list := range j.lists {
			got, e := bayes.Joint(n, list)
			wantFrac(t, "Joint", got, e, frac(j.chance[i]))
			sum.Add(sum, rat(got))
		}
		if sum.Cmp(big.NewRat(1, 1)) != 0 {
			t.Errorf("the sum of all assignments of %v is %v", n, sum)
		}
	}
}

// P1.1: the chapter's examples, no facts, and variables in both lists.
func TestChanceExamples(t *testing.T) {
	cases := []struct {
		n            api.Network
		asked, given [][2]int
		want         api.Frac
	}{
		{two(), [][2]int{{1, 1}}, nil, api.Frac{Num: 1, Den: 2}},
		{two(), [][2]int{{0, 1}}, [][2]int{{1, 1}}, api.Frac{Num: 3, Den: 4}},
		{two(), nil, nil, api.Frac{Num: 1, Den: 1}},
		{two(), [][2]int{}, [][2]int{{1, 0}}, api.Frac{Num: 1, Den: 1}},
		{two(), [][2]int{{1, 1}}, [][2]int{{1, 1}}, api.Frac{Num: 1, Den: 1}},
		{two(), [][2]int{{1, 0}}, [][2]int{{1, 1}}, api.Frac{Num: 0, Den: 1}},
		{two(), [][2]int{{0, 1}, {1, 0}}, [][2]int{{1, 1}}, api.Frac{Num: 0, Den: 1}},
		{two(), [][2]int{{1, 1}, {0, 1}}, [][2]int{{1, 1}}, api.Frac{Num: 3, Den: 4}},
		{single(0), [][2]int{{0, 1}}, nil, api.Frac{Num: 0, Den: 1}},
		{single(16), [][2]int{{0, 1}}, [][2]int{{0, 1}}, api.Frac{Num: 1, Den: 1}},
		{common(), [][2]int{{0, 1}}, [][2]int{{2, 1}}, api.Frac{Num: 4, Den: 5}},
		{common(), [][2]int{{0, 1}}, [][2]int{{2, 1}, {1, 1}}, api.Frac{Num: 1, Den: 2}},
		{common(), [][2]int{{0, 1}}, [][2]int{{2, 0}}, api.Frac{Num: 0, Den: 1}},
	}
	for _, c := range cases {
		got, e := bayes.Chance(c.n, c.asked, c.given)
		wantFrac(t, "Chance", got, e, c.want)
	}
}

// P1.1 and P1.2: Chance and Likely, and the facts whose probability is 0.
func TestChanceAndLikelyDrawn(t *testing.T) {
	r := rand.New(rand.NewSource(2))
	impossible := 0
	for i := range 60 {
		n := drawn(r, 1+i%10, i%3 != 0)
		j := jointOf(n)
		for range 12 {
			asked, given := drawnFacts(r, len(n.Parents)), drawnFacts(r, len(n.Parents))
			whole := j.of(given...)
			if whole.Sign() == 0 {
				impossible++
				wantNone(t, n, asked, given)
				continue
			}
			part := j.of(append(slices.Clone(asked), given...)...)
			got, e := bayes.Chance(n, asked, given)
			wantFrac(t, "Chance", got, e, frac(part.Quo(part, whole)))
			wantLikely(t, n, j, given)
		}
	}
	if impossible < 10 {
		t.Errorf("only %d facts had the probability 0", impossible)
	}
}

func wantNone(t *testing.T, n api.Network, asked, given [][2]int) {
	t.Helper()
	if f, e := bayes.Chance(n, asked, given); f != (api.Frac{}) || e != api.ErrNone {
		t.Errorf("Chance(%v, %v, %v) = %v, %d; want ErrNone", n, asked, given, f, e)
	}
	if l, f, e := bayes.Likely(n, given); len(l) != 0 || f != (api.Frac{}) || e != api.ErrNone {
		t.Errorf("Likely(%v, %v) = %v, %v, %d; want ErrNone", n, given, l, f, e)
	}
}

func wantLikely(t *testing.T, n api.Network, j joint, given [][2]int) {
	t.Helper()
	best := -1
	for i, list := range j.lists {
		if holds(list, given) && (best < 0 || j.chance[i].Cmp(j.chance[best]) > 0) {
			best = i
		}
	}
	l, f, e := bayes.Likely(n, given)
	if !slices.Equal(l, j.lists[best]) || f != frac(j.chance[best]) || e != api.OK {
		t.Errorf("Likely(%v, %v) = %v, %v, %d; want %v, %v", n, given, l, f, e, j.lists[best], j.chance[best])
	}
}

// P1.1: an impossible given comes before a contradiction with what is asked.
func TestFactsWithoutProbability(t *testing.T) {
	wantNone(t, common(), nil, [][2]int{{0, 1}, {2, 0}})
	wantNone(t, common(), [][2]int{{0, 0}}, [][2]int{{0, 1}, {2, 0}})
	wantNone(t, single(0), [][2]int{{0, 1}}, [][2]int{{0, 1}})
	wantNone(t, single(16), [][2]int{{0, 1}}, [][2]int{{0, 0}})
}

// P1.2: of equal ones the lexicographically smallest, which also has its own
// probability and not the one given the facts.
func TestLikelyExamples(t *testing.T) {
	even := api.Network{Parents: make([][]int, 3), Table: [][]int{{8}, {8}, {8}}}
	// 0 1 1 and 1 0 0 have the greatest probability: they differ first in 0.
	crossed := api.Network{Parents: [][]int{nil, {0}, {0}}, Table: [][]int{{8}, {12, 4}, {12, 4}}}
	cases := []struct {
		n     api.Network
		given [][2]int
		list  []int
		f     api.Frac
	}{
		{two(), nil, []int{0, 0}, api.Frac{Num: 3, Den: 8}},
		{two(), [][2]int{{1, 1}}, []int{1, 1}, api.Frac{Num: 3, Den: 8}},
		{two(), [][2]int{{1, 1}, {0, 0}}, []int{0, 1}, api.Frac{Num: 1, Den: 8}},
		{even, nil, []int{0, 0, 0}, api.Frac{Num: 1, Den: 8}},
		{even, [][2]int{{1, 1}}, []int{0, 1, 0}, api.Frac{Num: 1, Den: 8}},
		{crossed, nil, []int{0, 1, 1}, api.Frac{Num: 9, Den: 32}},
		{crossed, [][2]int{{2, 0}}, []int{1, 0, 0}, api.Frac{Num: 9, Den: 32}},
		{single(16), nil, []int{1}, api.Frac{Num: 1, Den: 1}},
		{single(8), nil, []int{0}, api.Frac{Num: 1, Den: 2}},
	}
	for _, c := range cases {
		l, f, e := bayes.Likely(c.n, c.given)
		if !slices.Equal(l, c.list) || f != c.f || e != api.OK {
			t.Errorf("Likely(%v, %v) = %v, %v, %d; want %v, %v", c.n, c.given, l, f, e, c.list, c.f)
		}
	}
}

// P1.1: lists that are not one value for each variable.
func TestJointErrors(t *testing.T) {
	for _, values := range [][]int{
		nil, {}, {0}, {0, 1, 0}, {0, 2}, {2, 0}, {0, -1}, {-1, 0},
		{math.MaxInt, 0}, {0, math.MinInt}, make([]int, 100000),
	} {
		if f, e := bayes.Joint(two(), values); f != (api.Frac{}) || e != api.ErrArg {
			t.Errorf("Joint of %d values %v = %v, %d; want ErrArg", len(values), values[:min(3, len(values))], f, e)
		}
	}
}

// P1.1 and P1.2: lists that are not facts, which are tested before ErrNone.
func TestFactsErrors(t *testing.T) {
	impossible := [][2]int{{0, 1}, {2, 0}}
	for _, wrong := range [][][2]int{
		{{-1, 0}}, {{4, 0}}, {{0, 2}}, {{0, -1}}, {{0, 0}, {0, 0}}, {{0, 0}, {0, 1}},
		{{1, 0}, {2, 1}, {1, 0}}, {{math.MinInt, 0}}, {{math.MaxInt, 1}}, {{0, math.MinInt}},
		{{0, math.MaxInt}}, {{0, 1}, {2, 0}, {0, 1}}, {{0, 1}, {2, 0}, {9, 1}}, make([][2]int, 100000),
	} {
		for _, given := range [][][2]int{nil, impossible, wrong} {
			if f, e := bayes.Chance(common(), wrong, given); f != (api.Frac{}) || e != api.ErrArg {
				t.Errorf("Chance with wrong facts and %v = %v, %d; want ErrArg", given, f, e)
			}
		}
		if f, e := bayes.Chance(common(), nil, wrong); f != (api.Frac{}) || e != api.ErrArg {
			t.Errorf("Chance given wrong facts = %v, %d; want ErrArg", f, e)
		}
		if l, f, e := bayes.Likely(common(), wrong); len(l) != 0 || f != (api.Frac{}) || e != api.ErrArg {
			t.Errorf("Likely given wrong facts = %v, %v, %d; want ErrArg", l, f, e)
		}
	}
}
