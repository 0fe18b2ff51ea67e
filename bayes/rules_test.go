package bayes_test

import (
	"fmt"
	"math"
	"slices"
	"testing"

	"turndown/api"
	"turndown/bayes"
)

// eleven has one variable too many.
func eleven() api.Network {
	return api.Network{Parents: make([][]int, 11), Table: slices.Repeat([][]int{{8}}, 11)}
}

// wrongNetworks are no networks, each for one reason.
func wrongNetworks() map[string]api.Network {
	p := func(lists ...[]int) [][]int { return lists }
	four := []int{1, 2, 3, 4}
	return map[string]api.Network{
		"no variables":      {},
		"empty lists":       {Parents: [][]int{}, Table: [][]int{}},
		"eleven variables":  eleven(),
		"many variables":    {Parents: make([][]int, 100000), Table: make([][]int, 100000)},
		"no tables":         {Parents: p(nil)},
		"no parents":        {Table: p([]int{8})},
		"more tables":       {Parents: p(nil), Table: p([]int{8}, []int{8})},
		"fewer tables":      {Parents: p(nil, nil), Table: p([]int{8})},
		"own parent":        {Parents: p(nil, []int{1}), Table: p([]int{8}, []int{8, 8})},
		"first own parent":  {Parents: p([]int{0}), Table: p([]int{8, 8})},
		"later parent":      {Parents: p(nil, []int{2}, nil), Table: p([]int{8}, []int{8, 8}, []int{8})},
		"negative parent":   {Parents: p(nil, []int{-1}), Table: p([]int{8}, []int{8, 8})},
		"greatest parent":   {Parents: p(nil, []int{math.MaxInt}), Table: p([]int{8}, []int{8, 8})},
		"least parent":      {Parents: p(nil, []int{math.MinInt}), Table: p([]int{8}, []int{8, 8})},
		"equal parents":     {Parents: p(nil, []int{0, 0}), Table: p([]int{8}, four)},
		"falling parents":   {Parents: p(nil, nil, []int{1, 0}), Table: p([]int{8}, []int{8}, four)},
		"four parents":      {Parents: p(nil, nil, nil, nil, []int{0, 1, 2, 3}), Table: p([]int{8}, []int{8}, []int{8}, []int{8}, make([]int, 16))},
		"many parents":      {Parents: p(make([]int, 100000)), Table: p([]int{8})},
		"no table":          {Parents: p(nil), Table: p(nil)},
		"long table":        {Parents: p(nil), Table: p([]int{8, 8})},
		"short table":       {Parents: p(nil, []int{0}), Table: p([]int{8}, []int{8})},
		"very long table":   {Parents: p(nil), Table: p(make([]int, 100000))},
		"negative entry":    {Parents: p(nil), Table: p([]int{-1})},
		"entry 17":          {Parents: p(nil), Table: p([]int{17})},
		"last entry 17":     {Parents: p(nil, nil, []int{0, 1}), Table: p([]int{8}, []int{8}, []int{0, 16, 8, 17})},
		"least entry":       {Parents: p(nil), Table: p([]int{math.MinInt})},
		"greatest entry":    {Parents: p(nil), Table: p([]int{math.MaxInt})},
		"second table only": {Parents: p(nil, nil), Table: p([]int{8}, []int{-1})},
	}
}

// The error of what is not a network comes first, whatever the other
// arguments are (Rule 2), and every other result is zero (Rule 4).
func TestWrongNetworks(t *testing.T) {
	for name, n := range wrongNetworks() {
		for _, pairs := range [][][2]int{nil, {{0, 0}}, {{0, 0}, {0, 1}}, {{-1, 7}}} {
			if f, e := bayes.Chance(n, pairs, nil); f != (api.Frac{}) || e != api.ErrArg {
				t.Errorf("%s: Chance = %v, %d", name, f, e)
			}
			if f, e := bayes.Chance(n, nil, pairs); f != (api.Frac{}) || e != api.ErrArg {
				t.Errorf("%s: Chance = %v, %d", name, f, e)
			}
			if l, f, e := bayes.Likely(n, pairs); len(l) != 0 || f != (api.Frac{}) || e != api.ErrArg {
				t.Errorf("%s: Likely = %v, %v, %d", name, l, f, e)
			}
		}
		for _, list := range [][]int{nil, {0}, {0, 1}, {0, 0}, make([]int, 11), {-1}} {
			if f, e := bayes.Joint(n, list); f != (api.Frac{}) || e != api.ErrArg {
				t.Errorf("%s: Joint = %v, %d", name, f, e)
			}
			if ok, l, e := bayes.Separated(n, 0, 1, list); ok || len(l) != 0 || e != api.ErrArg {
				t.Errorf("%s: Separated = %t, %v, %d", name, ok, l, e)
			}
			if ok, e := bayes.Active(n, list, nil); ok || e != api.ErrArg {
				t.Errorf("%s: Active = %t, %d", name, ok, e)
			}
			if ok, e := bayes.Active(n, nil, list); ok || e != api.ErrArg {
				t.Errorf("%s: Active = %t, %d", name, ok, e)
			}
		}
		for v := -1; v < 12; v++ {
			if m, e := bayes.Force(n, v, 1); m.Parents != nil || m.Table != nil || e != api.ErrArg {
				t.Errorf("%s: Force = %v, %d", name, m, e)
			}
			if a, b, e := bayes.Effect(n, v, 0); a != (api.Frac{}) || b != (api.Frac{}) || e != api.ErrArg {
				t.Errorf("%s: Effect = %v, %v, %d", name, a, b, e)
			}
		}
	}
}

// Networks at the limits are accepted: 1 and 10 variables, 3 parents, entries
// 0 and 16, lists that are nil or empty.
func TestNetworksAtLimits(t *testing.T) {
	for _, n := range []api.Network{
		single(0), single(16), {Parents: [][]int{{}}, Table: [][]int{{8}}}, ten(),
		{Parents: make([][]int, 10), Table: slices.Repeat([][]int{{16}}, 10)},
		shape(nil, nil, nil, []int{0, 1, 2}),
	} {
		if _, e := bayes.Joint(n, make([]int, len(n.Parents))); e != api.OK {
			t.Errorf("%v is a network: %d", n, e)
		}
	}
}

// answers are the results of all functions, as a text.
func answers(n api.Network, list, set []int, asked, given [][2]int) string {
	joint, e1 := bayes.Joint(n, list)
	chance, e2 := bayes.Chance(n, asked, given)
	likely, f, e3 := bayes.Likely(n, given)
	ok, trail, e4 := bayes.Separated(n, 0, 1, set)
	active, e5 := bayes.Active(n, list, set)
	forced, e6 := bayes.Force(n, 1, 1)
	a, b, e7 := bayes.Effect(n, 0, 3)
	return fmt.Sprint(joint, e1, chance, e2, likely, f, e3, ok, trail, e4, active, e5, forced, e6, a, b, e7)
}

// P2 and Rule 5: the same call has the same result, and changes no argument.
func TestCallsChangeNothing(t *testing.T) {
	for _, n := range []api.Network{common(), ten(), single(3), eleven()} {
		for _, list := range [][]int{{0, 1, 1, 0}, {0, 2, 1}, make([]int, 10)} {
			set, asked, given := []int{3, 2}, [][2]int{{2, 1}, {0, 1}}, [][2]int{{1, 1}, {0, 0}}
			keptNetwork, keptList := clone(n), slices.Clone(list)
			first := answers(n, list, set, asked, given)
			for range 20 {
				if again := answers(n, list, set, asked, given); again != first {
					t.Fatalf("first %s, then %s", first, again)
				}
			}
			if !same(n, keptNetwork) || !slices.Equal(list, keptList) || !slices.Equal(set, []int{3, 2}) ||
				!slices.Equal(asked, [][2]int{{2, 1}, {0, 1}}) || !slices.Equal(given, [][2]int{{1, 1}, {0, 0}}) {
				t.Error("an argument has been changed")
			}
		}
	}
}

// Rule 5: what a call returns shares no memory with the arguments, with other
// results, or within itself.
func TestResultsAreNew(t *testing.T) {
	n := ten()
	kept := clone(n)
	first, _ := bayes.Force(n, 3, 1)
	second, _ := bayes.Force(n, 3, 1)
	expected := clone(second)
	for _, lists := range [][][]int{first.Parents, first.Table} {
		for i := range lists {
			for j := range lists[i] {
				lists[i][j] = 1000*i + j
			}
			_ = append(lists[i], -1)
		}
	}
	for _, lists := range [][][]int{first.Parents, first.Table} {
		for i := range lists {
			for j := range lists[i] {
				if lists[i][j] != 1000*i+j {
					t.Fatalf("lists of one result share memory: %v", lists)
				}
			}
		}
	}
	first.Parents[0], first.Table[0] = nil, nil
	if !same(n, kept) || !same(second, expected) {
		t.Error("the result of Force shares memory")
	}
	likely, _, _ := bayes.Likely(n, nil)
	again := slices.Clone(likely)
	clear(likely[:cap(likely)])
	if l, _, _ := bayes.Likely(n, nil); !slices.Equal(l, again) {
		t.Error("the result of Likely shares memory")
	}
}

// P1: each function returns, for all arguments.
func TestNoPanics(t *testing.T) {
	numbers := []int{math.MinInt, -1, 0, 1, 2, 9, 10, math.MaxInt}
	networks := []api.Network{{}, single(8), two(), ten(), eleven()}
	for _, n := range wrongNetworks() {
		networks = append(networks, n)
	}
	for _, n := range networks {
		for _, x := range numbers {
			for _, y := range numbers {
				for _, list := range [][]int{nil, {x}, {x, y}, {y, x, y}} {
					bayes.Joint(n, list)
					bayes.Separated(n, x, y, list)
					bayes.Active(n, list, []int{x})
					bayes.Active(n, []int{x, y}, list)
				}
				bayes.Chance(n, [][2]int{{x, y}}, [][2]int{{y, x}})
				bayes.Likely(n, [][2]int{{x, y}, {y, x}})
				bayes.Force(n, x, y)
				bayes.Effect(n, x, y)
			}
		}
	}
}
