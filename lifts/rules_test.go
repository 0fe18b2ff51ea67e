package lifts_test

import (
	"fmt"
	"math"
	"math/rand"
	"slices"
	"testing"

	"turndown/api"
	"turndown/lifts"
)

// wrongPositions are no positions, each for one reason.
func wrongPositions() map[string][]int {
	return map[string][]int{
		"nil":              nil,
		"empty":            {},
		"four lifts":       {1, 2, 3, 4},
		"very many":        make([]int, 100000),
		"descending":       {3, 2},
		"last descending":  {1, 3, 2},
		"first descending": {3, 1, 3},
		"-1":               {-1},
		"first -1":         {-1, 4},
		"31":               {31},
		"last 31":          {4, 31},
		"last of three":    {4, 30, 31},
		"later -1":         {0, -1},
		"least number":     {math.MinInt, 1, 2},
		"greatest number":  {1, math.MaxInt},
		"both":             {math.MinInt, math.MaxInt},
		"33 bits":          {1<<32 + 1},
	}
}

// wrongCalls are no calls, each for one reason.
func wrongCalls() map[string][]int {
	last := make([]int, most)
	last[most-1] = highest + 1
	return map[string][]int{
		"41":              make([]int, most+1),
		"very many":       make([]int, 100000),
		"41 wrong ones":   slices.Repeat([]int{-1}, most+1),
		"-1":              {-1},
		"later -1":        {3, -1, 3},
		"31":              {31},
		"last 31":         {0, 30, 31},
		"last of 40":      last,
		"least number":    {1, math.MinInt},
		"greatest number": {math.MaxInt, 1},
		"33 bits":         {1 << 32},
	}
}

// wantArg tests that all functions with a start and calls reject these.
func wantArg(t *testing.T, name string, start, calls []int) {
	t.Helper()
	for which, serve := range map[string]server{"Careful": lifts.Careful, "Nearest": lifts.Nearest, "Best": lifts.Best, "Foresee": lifts.Foresee} {
		if schedule, n, e := serve(start, calls); len(schedule) != 0 || n != 0 || e != api.ErrArg {
			t.Errorf("%s: %s = %v, %d, %d", name, which, schedule, n, e)
		}
	}
	for _, schedule := range [][][]int{nil, {start}, {{1}}, {{1, 2}, nil}, make([][]int, len(calls)), slices.Repeat([][]int{{0}}, len(calls))} {
		if n, e := lifts.Cost(start, calls, schedule); n != 0 || e != api.ErrArg {
			t.Errorf("%s: Cost = %d, %d", name, n, e)
		}
	}
	for _, end := range [][]int{start, nil, {3}, {3, 4}, {3, 4, 5}, {4, 3}, {-1}} {
		wantNoWork(t, name, start, calls, end)
	}
}

func wantNoWork(t *testing.T, name string, start, calls, end []int) {
	t.Helper()
	if n, e := lifts.Work(start, calls, end); n != 0 || e != api.ErrArg {
		t.Errorf("%s: Work(%v, %v, %v) = %d, %d", name, start, calls, end, n, e)
	}
}

func wantNoPotential(t *testing.T, name string, careful, best []int) {
	t.Helper()
	if n, e := lifts.Potential(careful, best); n != 0 || e != api.ErrArg {
		t.Errorf("%s: Potential(%v, %v) = %d, %d", name, careful, best, n, e)
	}
}

// P7.1 to P7.3, Rules 2 and 4: what are not positions has ErrArg, whatever the
// other arguments are, and every other result is zero.
func TestWrongPositions(t *testing.T) {
	for name, wrong := range wrongPositions() {
		for _, calls := range [][]int{nil, {}, {3}, {1, 2, 3}, {-1}, {31}, make([]int, most+1)} {
			wantArg(t, name, wrong, calls)
			for _, start := range [][]int{{3}, {3, 4}, {3, 4, 5}} {
				wantNoWork(t, name, start, calls, wrong)
			}
		}
		for _, other := range [][]int{{3}, {3, 4}, {3, 4, 5}, wrong, nil} {
			wantNoPotential(t, name, wrong, other)
			wantNoPotential(t, name, other, wrong)
		}
	}
}

// P7.2, P7.3: positions of another number of lifts have ErrArg.
func TestOtherNumbers(t *testing.T) {
	for count := 1; count <= api.MaxLifts; count++ {
		for other := range api.MaxLifts + 2 {
			if other == count {
				wantWork(t, make([]int, count), []int{0}, make([]int, other), 0)
				wantPotential(t, make([]int, count), make([]int, other), 0)
				continue
			}
			wantNoWork(t, "another number", make([]int, count), nil, make([]int, other))
			wantNoWork(t, "another number", make([]int, count), []int{0}, make([]int, other))
			wantNoPotential(t, "another number", make([]int, count), make([]int, other))
		}
	}
}

// P7.1, P7.2, Rules 2 and 4: what are not calls has ErrArg, also if there is no
// schedule for them.
func TestWrongCalls(t *testing.T) {
	for name, calls := range wrongCalls() {
		for _, start := range [][]int{{0}, {30}, {3, 3}, {0, 30}, {1, 2, 3}, nil, {3, 2}} {
			wantArg(t, name, start, calls)
		}
	}
}

// P7.1: what is not a schedule for the calls has ErrAnswer.
func TestWrongSchedules(t *testing.T) {
	start, calls := []int{0, 10}, []int{6, 4}
	wantCost(t, start, calls, [][]int{{0, 6}, {4, 6}})
	for name, schedule := range map[string][][]int{
		"nil":             nil,
		"empty":           {},
		"nil rows":        {nil, nil},
		"too short":       {{0, 6}},
		"too long":        {{0, 6}, {4, 6}, {4, 6}},
		"very long":       slices.Repeat([][]int{{4, 6}}, 100000),
		"not served":      {{0, 6}, {0, 6}},
		"not first":       {{0, 10}, {4, 6}},
		"other order":     {{0, 4}, {0, 6}},
		"start too":       {{0, 10}, {0, 6}, {4, 6}},
		"fewer lifts":     {{6}, {4}},
		"fewer once":      {{0, 6}, {4}},
		"more lifts":      {{0, 6, 6}, {0, 4, 6}},
		"more once":       {{0, 6}, {0, 4, 6}},
		"nil once":        {{0, 6}, nil},
		"nil first":       {nil, {4, 6}},
		"descending":      {{0, 6}, {6, 4}},
		"-1":              {{-1, 6}, {4, 6}},
		"31":              {{6, 31}, {4, 6}},
		"least number":    {{0, 6}, {math.MinInt, 4}},
		"greatest number": {{0, 6}, {4, math.MaxInt}},
		"very many lifts": {make([]int, 100000), {4, 6}},
	} {
		wantNoSchedule(t, name, start, calls, schedule)
	}
	wantNoSchedule(t, "the zero behind one lift", []int{5}, []int{0}, [][]int{{5}})
	wantNoSchedule(t, "the zero behind two lifts", []int{5, 5}, []int{0}, [][]int{{5, 5}})
}

// Arguments at the limits are accepted: 1 and 3 lifts, at the floors 0 and 30,
// and 40 calls.
func TestLimits(t *testing.T) {
	for _, start := range [][]int{{0}, {30}, {0, 0, 0}, {0, 30, 30}, {30, 30, 30}} {
		for _, calls := range [][]int{make([]int, most), slices.Repeat([]int{30}, most), slices.Repeat([]int{0, 30, 15, 30}, 10)} {
			wantCareful(t, start, calls)
			wantNearest(t, start, calls)
			best, n, e := lifts.Best(start, calls)
			if m, f := lifts.Cost(start, calls, best); m != n || e != api.OK || f != api.OK {
				t.Errorf("Best(%v, %v) = %v, %d, %d, of the cost %d, %d", start, calls, best, n, e, m, f)
			}
			for _, end := range [][]int{make([]int, len(start)), slices.Repeat([]int{30}, len(start))} {
				if n, e := lifts.Work(start, calls, end); n < 0 || e != api.OK {
					t.Errorf("Work(%v, %v, %v) = %d, %d", start, calls, end, n, e)
				}
			}
		}
	}
}

// answers are the results of all functions, as a text.
func answers(start, calls, end []int, schedule [][]int) string {
	careful, n1, e1 := lifts.Careful(start, calls)
	nearest, n2, e2 := lifts.Nearest(start, calls)
	best, n3, e3 := lifts.Best(start, calls)
	n4, e4 := lifts.Cost(start, calls, schedule)
	n5, e5 := lifts.Work(start, calls, end)
	foreseen, n6, e6 := lifts.Foresee(start, calls)
	n7, e7 := lifts.Potential(start, end)
	return fmt.Sprint(careful, n1, e1, nearest, n2, e2, best, n3, e3, n4, e4, n5, e5, foreseen, n6, e6, n7, e7)
}

// P2 and Rule 5: the same call has the same result, whatever was called in
// between, and changes no argument, not even beyond its end.
func TestCallsChangeNothing(t *testing.T) {
	first := map[string]string{}
	for range 3 {
		r := rand.New(rand.NewSource(14))
		for round := range 60 {
			count := 1 + r.Intn(3)
			start, end, calls := drawnPositions(r, count), drawnPositions(r, count), drawnCalls(r, round%(most+1))
			schedule := drawnSchedule(r, count, calls)
			if round%4 == 0 {
				slices.Reverse(start)
			}
			keptStart, keptEnd := append(slices.Clone(start), 9), append(slices.Clone(end), 9)
			keptCalls, keptSchedule := append(slices.Clone(calls), 9), clone(schedule)
			call := fmt.Sprint(start, calls, end, schedule)
			start, end, calls = append(start, 9), append(end, 9), append(calls, 9)
			got := answers(start[:count], calls[:len(calls)-1], end[:count], schedule)
			if before, ok := first[call]; ok && before != got {
				t.Fatalf("%s: first %s, then %s", call, before, got)
			}
			first[call] = got
			if !same([][]int{start, end, calls}, [][]int{keptStart, keptEnd, keptCalls}) || !same(schedule, keptSchedule) {
				t.Errorf("%s: an argument has been changed", call)
			}
		}
	}
}

// wantApart tests that no two of these lists share memory: it fills each to
// its capacity, and looks at the other ones.
func wantApart(t *testing.T, lists ...[]int) {
	t.Helper()
	for i, list := range lists {
		before := clone(lists)
		list = list[:cap(list)]
		for j := range list {
			list[j] = 77
		}
		for j, other := range lists {
			if i != j && !slices.Equal(other, before[j]) {
				t.Errorf("the lists %d and %d share memory", i, j)
			}
		}
	}
}

// Rule 5: results are new memory, and so is each list in one, also if the
// lifts stay where they are.
func TestResultsAreNew(t *testing.T) {
	start, calls := []int{4, 6, 6}, []int{6, 4, 6, 6, 4}
	want := answers(start, calls, start, nil)
	list := [][]int{start, calls}
	for range 2 {
		for _, serve := range []server{lifts.Careful, lifts.Nearest, lifts.Best, lifts.Foresee} {
			schedule, n, e := serve(start, calls)
			if !same(schedule, slices.Repeat([][]int{start}, 5)) || n != 0 || e != api.OK {
				t.Errorf("the schedule is %v, %d, %d", schedule, n, e)
			}
			list = append(list, schedule...)
		}
	}
	keptStart, keptCalls := slices.Clone(start), slices.Clone(calls)
	wantApart(t, list...)
	if got := answers(keptStart, keptCalls, keptStart, nil); got != want {
		t.Errorf("first %s, then %s", want, got)
	}
}

// P1: each function returns, for all arguments.
func TestNoPanics(t *testing.T) {
	lists := [][]int{nil, {}, {0, 10}, {1, 2, 3}, {3, 2, 1}, {1, 2, 3, 4}, make([]int, most), make([]int, most+1), slices.Repeat([]int{highest, 0}, 20)}
	for _, n := range []int{math.MinInt, -1, 0, 1, highest, highest + 1, 1 << 32, math.MaxInt} {
		lists = append(lists, []int{n}, []int{n, n}, []int{0, n}, []int{n, 0}, []int{n, n, n})
	}
	schedules := [][][]int{nil, {nil}, {{0}}, {{0, 10}}, {{1, 2, 3}}, slices.Repeat([][]int{{0}}, most), make([][]int, most), lists}
	for _, start := range lists {
		for i, calls := range lists {
			answers(start, calls, lists[i*7%len(lists)], schedules[i%len(schedules)])
			for _, schedule := range schedules {
				lifts.Cost(start, calls, schedule)
			}
			lifts.Potential(start, calls)
		}
		for _, end := range lists {
			lifts.Work(start, []int{3}, end)
		}
	}
}
