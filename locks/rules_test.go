package locks_test

import (
	"fmt"
	"math"
	"slices"
	"testing"

	"turndown/api"
	"turndown/locks"
)

// wrongPlans are no access plans, each for one reason.
func wrongPlans() map[string][][]int {
	plans := map[string][][]int{
		"nil":              nil,
		"no keys":          {},
		"nil row":          {nil},
		"no locks":         {{}, {}},
		"seven keys":       table(7, 1, 0),
		"seven locks":      table(1, 7, 0),
		"seven of both":    table(7, 7, 1),
		"very many keys":   make([][]int, 100000),
		"very many locks":  table(1, 100000, 0),
		"shorter row":      {{0, 1}, {1}},
		"longer row":       {{0, 1}, {1, 0, 1}},
		"later empty row":  {{0, 1}, nil},
		"first empty row":  {nil, {0, 1}},
		"last longer row":  {{1}, {0}, {1}, {0}, {1}, {0, 0}},
		"2":                {{2}},
		"-1":               {{-1}},
		"last 2":           {{1, 1}, {1, 2}},
		"last -1":          {{1, 1}, {1, -1}},
		"least number":     {{1, math.MinInt}, {0, 0}},
		"greatest number":  {{1, 0}, {math.MaxInt, 0}},
		"wrong number too": {{0, 7}, {0}},
	}
	for _, number := range []int{2, -1} {
		last := table(6, 6, 1)
		last[5][5] = number
		plans[fmt.Sprint("6 by 6, last ", number)] = last
	}
	return plans
}

// wrongCuts are no cuts for two keys with depths from 1 to 3, each for one
// reason.
func wrongCuts() map[string][][]int {
	return map[string][][]int{
		"nil":              nil,
		"no keys":          {},
		"nil rows":         {nil, nil},
		"no chambers":      {{}, {}},
		"one key":          {{1}},
		"three keys":       {{1}, {2}, {3}},
		"five chambers":    table(2, 5, 1),
		"very many":        table(2, 100000, 1),
		"very many keys":   make([][]int, 100000),
		"shorter row":      {{1, 2}, {1}},
		"longer row":       {{1, 2}, {1, 2, 3}},
		"later empty row":  {{1}, nil},
		"first empty row":  {nil, {1}},
		"0":                {{1}, {0}},
		"first 0":          {{0}, {1}},
		"-1":               {{1, 1}, {-1, 1}},
		"4":                {{1, 2}, {2, 4}},
		"first 4":          {{4, 2}, {2, 1}},
		"least number":     {{1, math.MinInt}, {1, 1}},
		"greatest number":  {{1, 1}, {math.MaxInt, 1}},
		"wrong number too": {{9, 1}, {1}},
	}
}

// outside returns numbers that are not from 1 to the limit.
func outside(limit int) []int {
	return []int{0, -1, limit + 1, limit + 2, 1 << 32, 1<<32 + 1, math.MinInt, math.MinInt + 1, math.MaxInt}
}

// wantArg tests that all functions that get cuts reject these, for all locks.
func wantArg(t *testing.T, name string, access, cuts [][]int, d int) {
	t.Helper()
	if e := locks.Check(access, cuts, d); e != api.ErrArg {
		t.Errorf("%s: Check = %d", name, e)
	}
	if list, e := locks.Wrong(access, cuts, d); len(list) != 0 || e != api.ErrArg {
		t.Errorf("%s: Wrong = %v, %d", name, list, e)
	}
	for _, lock := range []int{0, 1, -1, 6, math.MinInt, math.MaxInt} {
		if n, e := locks.Strangers(access, cuts, d, lock); n != 0 || e != api.ErrArg {
			t.Errorf("%s: Strangers of %d = %d, %d", name, lock, n, e)
		}
	}
}

// P5.1 to P5.3, Rules 2 and 4: what is not an access plan has ErrArg,
// whatever the other arguments are, and every other result is zero.
func TestWrongPlans(t *testing.T) {
	for name, access := range wrongPlans() {
		for _, d := range []int{1, 2, 4, 0, 5} {
			for _, c := range []int{1, 2, 4, 0, 5} {
				if cuts, e := locks.Plan(access, c, d); len(cuts) != 0 || e != api.ErrArg {
					t.Errorf("%s: Plan = %v, %d", name, cuts, e)
				}
			}
			if n, e := locks.Least(access, d); n != 0 || e != api.ErrArg {
				t.Errorf("%s: Least = %d, %d", name, n, e)
			}
			for keys := range 8 {
				wantArg(t, name, access, table(keys, 1, 1), d)
			}
			wantArg(t, name, access, table(len(access), 1, 1), d)
		}
		if kept, numbers, e := locks.Merge(access); len(kept) != 0 || len(numbers) != 0 || e != api.ErrArg {
			t.Errorf("%s: Merge = %v, %v, %d", name, kept, numbers, e)
		}
	}
}

// P5.1, Rule 2: a wrong number of chambers or depths has ErrArg, also if
// there are no correct cuts.
func TestWrongNumbers(t *testing.T) {
	for _, access := range [][][]int{twoAndMaster(), othersLocks(6), {{1}}} {
		for _, wrong := range outside(4) {
			for number := range 6 {
				for _, call := range [][2]int{{wrong, number}, {number, wrong}} {
					if cuts, e := locks.Plan(access, call[0], call[1]); len(cuts) != 0 || e != api.ErrArg {
						t.Errorf("Plan(%v, %v) = %v, %d", access, call, cuts, e)
					}
				}
			}
			if n, e := locks.Least(access, wrong); n != 0 || e != api.ErrArg {
				t.Errorf("Least(%v, %d) = %d, %d", access, wrong, n, e)
			}
			wantArg(t, "depths", access, table(len(access), 1, 1), wrong)
		}
	}
}

// P5.2, Rule 2: what are not cuts for the keys has ErrArg, also if what is
// there of them is wrong. With more depths, cuts may become valid.
func TestWrongCuts(t *testing.T) {
	for name, cuts := range wrongCuts() {
		for _, access := range [][][]int{ownLocks(2), {{1}, {0}}, {{1, 0, 1}, {1, 0, 1}}} {
			for d := 1; d <= 3; d++ {
				wantArg(t, name, access, cuts, d)
			}
		}
	}
	for depth := 1; depth <= 6; depth++ {
		for d := 1; d <= api.MaxDepths; d++ {
			cuts := [][]int{{1, 1}, {1, depth}}
			if depth > d {
				wantArg(t, "too deep", ownLocks(2), cuts, d)
			} else {
				wantCuts(t, ownLocks(2), cuts, d)
			}
		}
	}
}

// P5.2: Strangers has ErrArg if there is no such lock.
func TestWrongLocks(t *testing.T) {
	for count := 1; count <= api.MaxLocks; count++ {
		access := table(2, count, 1)
		for _, lock := range []int{-1, count, count + 1, 1 << 32, math.MinInt, math.MaxInt} {
			if n, e := locks.Strangers(access, table(2, 2, 1), 2, lock); n != 0 || e != api.ErrArg {
				t.Errorf("Strangers of %d of %d locks = %d, %d", lock, count, n, e)
			}
		}
		if n, e := locks.Strangers(access, table(2, 2, 1), 2, count-1); n != 1 || e != api.OK {
			t.Errorf("Strangers of the last of %d locks = %d, %d", count, n, e)
		}
	}
}

// Arguments at the limits are accepted: 1 and 6 keys and locks, 1 and 4
// chambers and depths.
func TestLimits(t *testing.T) {
	for _, keys := range []int{1, 6} {
		for _, count := range []int{1, 6} {
			for number := range 2 {
				access := table(keys, count, number)
				for _, d := range []int{1, 4} {
					wantPlan(t, access, d, 1)
					for _, c := range []int{1, 4} {
						wantCuts(t, access, table(keys, c, d), d)
					}
				}
				kept, numbers, e := locks.Merge(access)
				if len(kept) != 1 || len(numbers) != keys || e != api.OK {
					t.Errorf("Merge(%v) = %v, %v, %d", access, kept, numbers, e)
				}
			}
		}
	}
}

// answers are the results of all functions, as a text.
func answers(access, cuts [][]int, c, d int) string {
	planned, e1 := locks.Plan(access, c, d)
	n, e2 := locks.Least(access, d)
	kept, numbers, e3 := locks.Merge(access)
	return fmt.Sprint(planned, e1, n, e2, kept, numbers, e3, said(access, cuts, d))
}

// P2 and Rule 5: the same call has the same result, whatever was called in
// between, and changes no argument.
func TestCallsChangeNothing(t *testing.T) {
	first := map[string]string{}
	for range 3 {
		plans := append(drawnPlans(17, 2), nil, [][]int{{1, 0}, {1}}, [][]int{{2}}, twoAndMaster())
		for _, access := range plans {
			for _, cuts := range [][][]int{table(len(access), 2, 1), {{1, 2}, {2, 2}, {3, 1}}, {{1}, nil}} {
				for d := 1; d <= 5; d++ {
					kept, keptCuts := clone(access), clone(cuts)
					call := fmt.Sprint(access, cuts, d)
					got := answers(access, cuts, 3, d)
					if before, ok := first[call]; ok && before != got {
						t.Fatalf("%s: first %s, then %s", call, before, got)
					}
					first[call] = got
					if !same(access, kept) || !same(cuts, keptCuts) {
						t.Errorf("%s: an argument has been changed", call)
					}
				}
			}
		}
	}
}

// wantApart tests that no two of these lists share memory: it fills each to
// its capacity, and looks at the other ones.
func wantApart(t *testing.T, lists ...[]int) {
	t.Helper()
	for i, list := range lists {
		before := clone(lists)
		list = list[:cap(list)]
		for j := range list {
			list[j] = 77
		}
		for j, other := range lists {
			if i != j && !slices.Equal(other, before[j]) {
				t.Errorf("the lists %d and %d share memory", i, j)
			}
		}
	}
}

// Rule 5: results are new memory, and so is each list in one.
func TestResultsAreNew(t *testing.T) {
	access, cuts := [][]int{{1, 0}, {0, 1}, {1, 0}, {1, 1}}, [][]int{{1, 1}, {1, 1}, {1, 1}, {2, 1}}
	want := answers(access, cuts, 4, 2)
	wrong, _ := locks.Wrong(access, cuts, 2)
	list := access
	for range 2 {
		planned, _ := locks.Plan(access, 4, 2)
		kept, numbers, _ := locks.Merge(access)
		list = append(append(append(list, planned...), kept...), numbers)
		again, _ := locks.Wrong(access, cuts, 2)
		if !slices.Equal(again, wrong) || len(wrong) == 0 {
			t.Errorf("Wrong = %v, then %v", wrong, again)
		}
		clear(again[:cap(again)])
	}
	kept := clone(access)
	wantApart(t, list...)
	if got := answers(kept, cuts, 4, 2); got != want {
		t.Errorf("first %s, then %s", want, got)
	}
}

// P1: each function returns, for all arguments.
func TestNoPanics(t *testing.T) {
	numbers := []int{math.MinInt, -1, 0, 1, 2, 3, 4, 5, 6, 7, 1 << 32, math.MaxInt}
	tables := [][][]int{nil, {}, {nil}, {{0}}, {{1}, {0}}, {{0}, nil}, {{0, 1}, {1, 0}}, {{1, 2}, {2, 1}}, make([][]int, 6), make([][]int, 7), table(6, 6, 1), table(6, 4, 1)}
	for _, n := range numbers {
		tables = append(tables, [][]int{{n}}, [][]int{{1, n}, {1, 1}}, [][]int{{1, 1}, {1, n}})
	}
	for _, access := range tables {
		for _, d := range numbers {
			for _, c := range numbers {
				answers(access, access, c, d)
			}
			for _, cuts := range tables {
				said(access, cuts, d)
				locks.Strangers(access, cuts, d, math.MinInt)
				locks.Strangers(access, cuts, d, math.MaxInt)
			}
		}
	}
}
