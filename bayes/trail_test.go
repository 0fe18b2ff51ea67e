package bayes_test

import (
	"math"
	"math/big"
	"math/rand"
	"slices"
	"testing"

	"turndown/api"
	"turndown/bayes"
)

// P1.3 and P3: Separated returns a certificate, and not both.
func wantSeparated(t *testing.T, n api.Network, x, y int, set []int, want bool) {
	t.Helper()
	ok, trail, e := bayes.Separated(n, x, y, set)
	if ok != want || e != api.OK {
		t.Errorf("Separated(%v, %d, %d, %v) = %t, %v, %d; want %t", n.Parents, x, y, set, ok, trail, e, want)
		return
	}
	if ok {
		if len(trail) != 0 {
			t.Errorf("Separated(%v, %d, %d, %v) = true with %v", n.Parents, x, y, set, trail)
		}
		return
	}
	if len(trail) < 2 || trail[0] != x || trail[len(trail)-1] != y {
		t.Errorf("Separated(%v, %d, %d, %v): %v is no trail between these", n.Parents, x, y, set, trail)
		return
	}
	if active, e := bayes.Active(n, trail, set); !active || e != api.OK || !isActive(n, trail, set) {
		t.Errorf("Separated(%v, %d, %d, %v): Active of %v is %t, %d", n.Parents, x, y, set, trail, active, e)
	}
}

// P1.3: chains, common causes, and common children with descendants.
func TestSeparatedExamples(t *testing.T) {
	chain := shape(nil, []int{0}, []int{1}, []int{2})
	cause := shape(nil, []int{0}, []int{0})
	child := shape(nil, nil, []int{0, 1})
	below := shape(nil, nil, []int{0, 1}, []int{2}, []int{3}, nil)
	// 0 and 1 meet in 2, 1 and 3 in 4.
	twice := shape(nil, nil, []int{0, 1}, nil, []int{1, 3}, []int{2}, []int{4})
	cases := []struct {
		n    api.Network
		x, y int
		set  []int
		want bool
	}{
		{chain, 0, 3, nil, false}, {chain, 3, 0, nil, false}, {chain, 0, 3, []int{1}, true},
		{chain, 0, 3, []int{2}, true}, {chain, 0, 1, []int{3, 2}, false}, {chain, 1, 2, []int{0}, false},
		{cause, 1, 2, nil, false}, {cause, 1, 2, []int{0}, true}, {cause, 2, 1, []int{0}, true},
		{child, 0, 1, nil, true}, {child, 0, 1, []int{2}, false}, {child, 1, 0, []int{2}, false},
		{below, 0, 1, nil, true}, {below, 0, 1, []int{3}, false}, {below, 0, 1, []int{4}, false},
		{below, 1, 0, []int{4, 5}, false}, {below, 0, 1, []int{5}, true}, {below, 0, 5, []int{4}, true},
		{below, 0, 4, []int{2}, true}, {below, 0, 4, nil, false}, {below, 0, 4, []int{1}, false},
		{twice, 0, 3, nil, true}, {twice, 0, 3, []int{2}, true}, {twice, 0, 3, []int{4}, true},
		{twice, 0, 3, []int{2, 4}, false}, {twice, 0, 3, []int{5, 6}, false}, {twice, 0, 3, []int{6, 1, 5}, true},
		{twice, 5, 6, nil, false}, {twice, 5, 6, []int{1}, true}, {shape(nil, nil), 0, 1, nil, true},
	}
	for _, c := range cases {
		wantSeparated(t, c.n, c.x, c.y, c.set, c.want)
	}
	if _, trail, _ := bayes.Separated(common(), 0, 1, []int{2}); !slices.Equal(trail, []int{0, 2, 1}) {
		t.Errorf("the only trail is 0 2 1, not %v", trail)
	}
}

// shape returns a network with these parents.
func shape(parents ...[]int) api.Network {
	n := api.Network{Parents: parents}
	for _, list := range parents {
		n.Table = append(n.Table, make([]int, 1<<len(list)))
	}
	return n
}

// P1.3 and P3: all pairs and sets of drawn networks, decided in another way,
// and all trails between them.
func TestSeparatedDrawn(t *testing.T) {
	r := rand.New(rand.NewSource(3))
	for i := range 60 {
		n := drawn(r, 2+i%5, false)
		for x := range n.Parents {
			for y := range n.Parents {
				if x != y {
					checkTrails(t, n, x, y)
				}
			}
		}
	}
}

func checkTrails(t *testing.T, n api.Network, x, y int) {
	t.Helper()
	trails := trailsBetween(n, x, y)
	for _, set := range setsWithout(len(n.Parents), x, y) {
		separated := moralSeparated(n, x, y, set)
		wantSeparated(t, n, x, y, set, separated)
		some := false
		for _, trail := range trails {
			active, e := bayes.Active(n, trail, set)
			if active != isActive(n, trail, set) || e != api.OK {
				t.Errorf("Active(%v, %v, %v) = %t, %d", n.Parents, trail, set, active, e)
			}
			some = some || active
		}
		if some == separated {
			t.Errorf("%d and %d of %v given %v: both certificates, or none", x, y, n.Parents, set)
		}
	}
}

// P1.3: networks of 10 variables, with as many edges as there can be.
func TestSeparatedTen(t *testing.T) {
	r := rand.New(rand.NewSource(4))
	dense := shape(nil, []int{0}, []int{0, 1}, []int{0, 1, 2}, []int{1, 2, 3}, []int{2, 3, 4},
		[]int{3, 4, 5}, []int{4, 5, 6}, []int{5, 6, 7}, []int{6, 7, 8})
	for _, n := range []api.Network{ten(), dense, drawn(r, 10, false), drawn(r, 10, false)} {
		for range 300 {
			order := r.Perm(10)
			set := order[2 : 2+r.Intn(9)]
			wantSeparated(t, n, order[0], order[1], set, moralSeparated(n, order[0], order[1], set))
		}
	}
}

// P1.3: Active, with sets in any order, and trails in both directions.
func TestActiveExamples(t *testing.T) {
	below := shape(nil, nil, []int{0, 1}, []int{2}, []int{3}, nil)
	married := shape(nil, []int{0}, []int{0, 1})
	cases := []struct {
		n          api.Network
		trail, set []int
		want       bool
	}{
		{common(), []int{0, 2, 3}, nil, true}, {common(), []int{0, 2, 3}, []int{2}, false},
		{common(), []int{3, 2, 0}, []int{1}, true}, {common(), []int{0, 2, 1}, nil, false},
		{common(), []int{0, 2, 1}, []int{3}, true}, {common(), []int{0, 2}, nil, true},
		{common(), []int{2, 0}, []int{3, 1}, true}, {below, []int{0, 2, 1}, []int{5, 4}, true},
		{below, []int{0, 2, 1}, []int{4, 5}, true}, {below, []int{0, 2, 1}, []int{5}, false},
		{married, []int{0, 1, 2}, nil, true}, {married, []int{0, 1, 2}, []int{}, true},
		{married, []int{0, 2, 1}, nil, false}, {married, []int{1, 0, 2}, nil, true},
	}
	for _, c := range cases {
		if got, e := bayes.Active(c.n, c.trail, c.set); got != c.want || e != api.OK {
			t.Errorf("Active(%v, %v, %v) = %t, %d; want %t", c.n.Parents, c.trail, c.set, got, e, c.want)
		}
	}
}

// P1.3: variables and sets that Separated rejects.
func TestSeparatedErrors(t *testing.T) {
	cases := []struct {
		x, y int
		set  []int
	}{
		{-1, 1, nil}, {4, 1, nil}, {0, -1, nil}, {0, 4, nil}, {1, 1, nil}, {0, 1, []int{0}}, {0, 1, []int{1}},
		{0, 1, []int{2, 2}}, {0, 1, []int{-1}}, {0, 1, []int{4}}, {0, 1, []int{3, 2, 3}}, {0, 1, []int{2, 1}},
		{math.MinInt, 1, nil}, {0, math.MaxInt, nil}, {0, 1, []int{math.MinInt}}, {0, 1, []int{math.MaxInt}},
		{math.MaxInt, math.MaxInt, nil}, {0, 1, slices.Repeat([]int{2}, 100000)},
	}
	for _, c := range cases {
		if ok, trail, e := bayes.Separated(common(), c.x, c.y, c.set); ok || len(trail) != 0 || e != api.ErrArg {
			t.Errorf("Separated(%d, %d, ..) = %t, %v, %d; want ErrArg", c.x, c.y, ok, trail, e)
		}
	}
}

// P1.3: trails and sets that Active rejects, also where the trail would not
// be active.
func TestActiveErrors(t *testing.T) {
	cases := []struct{ trail, set []int }{
		{nil, nil}, {[]int{0}, nil}, {[]int{0, 1}, nil}, {[]int{0, 0}, nil}, {[]int{0, 2, 0}, nil},
		{[]int{0, 3}, nil}, {[]int{0, 2, 1, 2}, nil}, {[]int{0, 4}, nil}, {[]int{-1, 0}, nil},
		{[]int{0, 2, 1, 3}, nil}, {[]int{0, 2}, []int{0}}, {[]int{0, 2}, []int{2}}, {[]int{0, 2, 1}, []int{1}},
		{[]int{0, 2, 1}, []int{3, 3}}, {[]int{0, 2, 1}, []int{4}}, {[]int{0, 2, 1}, []int{-1}},
		{[]int{0, 2, 3}, []int{2, 2}}, {[]int{math.MinInt, math.MaxInt}, nil}, {[]int{0, math.MaxInt}, nil},
		{[]int{0, 2}, []int{math.MinInt}}, {[]int{0, 2}, slices.Repeat([]int{3}, 100000)},
		{slices.Repeat([]int{0, 2}, 50000), nil}, {[]int{3}, []int{0}}, {[]int{0, 2, 4}, nil},
	}
	for _, c := range cases {
		if ok, e := bayes.Active(common(), c.trail, c.set); ok || e != api.ErrArg {
			t.Errorf("Active(%v, %v) = %t, %d; want ErrArg", c.trail[:min(4, len(c.trail))], c.set[:min(4, len(c.set))], ok, e)
		}
	}
}

// P1.5: what is separated is independent, given any possible values of the
// set.
func TestSeparatedIndependent(t *testing.T) {
	r := rand.New(rand.NewSource(5))
	tested := 0
	for i := range 80 {
		n := drawn(r, 3+i%3, i%2 == 0)
		for x := range n.Parents {
			for y := range x {
				for _, set := range setsWithout(len(n.Parents), x, y) {
					if ok, _, _ := bayes.Separated(n, x, y, set); ok {
						tested++
						wantIndependent(t, n, x, y, set)
					}
				}
			}
		}
	}
	if tested < 100 {
		t.Errorf("only %d separations", tested)
	}
}

func wantIndependent(t *testing.T, n api.Network, x, y int, set []int) {
	t.Helper()
	for _, values := range assignmentsOf(len(set) + 2) {
		px, py := [2]int{x, values[0]}, [2]int{y, values[1]}
		var given [][2]int
		for i, v := range set {
			given = append(given, [2]int{v, values[i+2]})
		}
		both, e := bayes.Chance(n, [][2]int{px, py}, given)
		if e == api.ErrNone {
			continue
		}
		first, _ := bayes.Chance(n, [][2]int{px}, given)
		second, _ := bayes.Chance(n, [][2]int{py}, given)
		product := new(big.Rat).Mul(rat(first), rat(second))
		if e != api.OK || frac(product) != both {
			t.Errorf("%v: %v and %v given %v: %v is not %v times %v", n, px, py, given, both, first, second)
		}
	}
}
