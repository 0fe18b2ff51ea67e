package lifts_test

import (
	"math/rand"
	"slices"
	"testing"

	"turndown/api"
	"turndown/lifts"
)

// server is a function that serves all calls.
type server func(start, calls []int) ([][]int, int, api.Errno)

// wantServed tests that a function returns this schedule.
func wantServed(t *testing.T, name string, serve server, start, calls []int, want [][]int) {
	t.Helper()
	got, n, e := serve(start, calls)
	if !same(got, want) || n != costOf(start, want) || e != api.OK {
		t.Errorf("%s(%v, %v) = %v, %d, %d, want %v", name, start, calls, got, n, e, want)
	}
}

func wantCareful(t *testing.T, start, calls []int) {
	t.Helper()
	wantServed(t, "Careful", lifts.Careful, start, calls, steps(start, calls, carefulStep))
}

func wantNearest(t *testing.T, start, calls []int) {
	t.Helper()
	wantServed(t, "Nearest", lifts.Nearest, start, calls, steps(start, calls, nearestStep))
}

// P7.1: the chapter's first two examples.
func TestExamplesOfSchedules(t *testing.T) {
	wantServed(t, "Careful", lifts.Careful, []int{0, 10}, []int{6, 4, 6}, [][]int{{4, 6}, {4, 6}, {4, 6}})
	if _, n, _ := lifts.Careful([]int{0, 10}, []int{6, 4, 6}); n != 8 {
		t.Errorf("Careful costs %d", n)
	}
	wantServed(t, "Nearest", lifts.Nearest, []int{0, 10}, []int{6, 4, 6}, [][]int{{0, 6}, {0, 4}, {0, 6}})
	for name, serve := range map[string]server{"Careful": lifts.Careful, "Nearest": lifts.Nearest} {
		wantServed(t, name, serve, []int{5}, []int{7, 3}, [][]int{{7}, {3}})
		if _, n, _ := serve([]int{5}, []int{7, 3}); n != 6 {
			t.Errorf("%s costs %d", name, n)
		}
	}
}

// P7.1: lifts at the same floor, lifts at the same distance, and floors below,
// above, and of the lifts.
func TestWaysToServe(t *testing.T) {
	for _, c := range []struct {
		start            []int
		floor            int
		careful, nearest []int
	}{
		{[]int{4, 8}, 6, []int{6, 6}, []int{6, 8}},
		{[]int{4, 9}, 6, []int{6, 7}, []int{6, 9}},
		{[]int{3, 8}, 6, []int{5, 6}, []int{3, 6}},
		{[]int{2, 2, 10}, 4, []int{2, 4, 8}, []int{2, 4, 10}},
		{[]int{2, 10, 10}, 8, []int{4, 8, 10}, []int{2, 8, 10}},
		{[]int{5, 5, 5}, 2, []int{2, 5, 5}, []int{2, 5, 5}},
		{[]int{5, 5, 5}, 9, []int{5, 5, 9}, []int{5, 5, 9}},
		{[]int{5, 5, 5}, 5, []int{5, 5, 5}, []int{5, 5, 5}},
		{[]int{1, 7, 20}, 7, []int{1, 7, 20}, []int{1, 7, 20}},
		{[]int{1, 7, 20}, 0, []int{0, 7, 20}, []int{0, 7, 20}},
		{[]int{1, 7, 20}, 30, []int{1, 7, 30}, []int{1, 7, 30}},
		{[]int{0, 30}, 15, []int{15, 15}, []int{15, 30}},
	} {
		wantServed(t, "Careful", lifts.Careful, c.start, []int{c.floor}, [][]int{c.careful})
		wantServed(t, "Nearest", lifts.Nearest, c.start, []int{c.floor}, [][]int{c.nearest})
	}
}

// P7.1: a first call at each floor, from all positions.
func TestAllFirstCalls(t *testing.T) {
	for count := 1; count <= api.MaxLifts; count++ {
		for _, start := range allPositions(count) {
			for floor := range highest + 1 {
				wantCareful(t, start, []int{floor})
				wantNearest(t, start, []int{floor})
			}
		}
	}
}

// P7.1: calls of all kinds, up to the greatest number of them.
func TestDrawnCalls(t *testing.T) {
	r := rand.New(rand.NewSource(1))
	for round := range 2000 {
		start := drawnPositions(r, 1+r.Intn(3))
		calls := drawnCalls(r, round%(most+1))
		wantCareful(t, start, calls)
		wantNearest(t, start, calls)
	}
}

// P7.1: without calls, there is nothing to pay.
func TestNoCalls(t *testing.T) {
	for _, start := range [][]int{{0}, {30}, {3, 3}, {0, 30}, {1, 2, 3}, {30, 30, 30}} {
		for _, calls := range [][]int{nil, {}} {
			for name, serve := range map[string]server{"Careful": lifts.Careful, "Nearest": lifts.Nearest, "Best": lifts.Best, "Foresee": lifts.Foresee} {
				wantServed(t, name, serve, start, calls, nil)
			}
			for _, schedule := range [][][]int{nil, {}} {
				wantCost(t, start, calls, schedule)
			}
			wantNoSchedule(t, "too long", start, calls, [][]int{start})
			wantNoSchedule(t, "an empty list", start, calls, [][]int{nil})
		}
	}
}

func wantCost(t *testing.T, start, calls []int, schedule [][]int) {
	t.Helper()
	if n, e := lifts.Cost(start, calls, schedule); n != costOf(start, schedule) || e != api.OK {
		t.Errorf("Cost(%v, %v, %v) = %d, %d, want %d", start, calls, schedule, n, e, costOf(start, schedule))
	}
}

func wantNoSchedule(t *testing.T, name string, start, calls []int, schedule [][]int) {
	t.Helper()
	if n, e := lifts.Cost(start, calls, schedule); n != 0 || e != api.ErrAnswer {
		t.Errorf("%s: Cost(%v, %v, %v) = %d, %d", name, start, calls, schedule, n, e)
	}
}

// P7.1: the cost of any schedule.
func TestCosts(t *testing.T) {
	r := rand.New(rand.NewSource(2))
	for round := range 3000 {
		start := drawnPositions(r, 1+r.Intn(3))
		calls := drawnCalls(r, round%(most+1))
		wantCost(t, start, calls, drawnSchedule(r, len(start), calls))
	}
	wantCost(t, []int{0, 10}, []int{6}, [][]int{{6, 10}})
	wantCost(t, []int{0, 10}, []int{6}, [][]int{{0, 6}})
	wantCost(t, []int{0, 10}, []int{6}, [][]int{{6, 6}})
	wantCost(t, []int{0, 0, 0}, slices.Repeat([]int{30, 0}, 20), slices.Repeat([][]int{{30, 30, 30}, {0, 0, 0}}, 20))
}

// P7.1: for each position in a schedule, all floors there are, of which some
// make it wrong, and others do not.
func TestChangedSchedules(t *testing.T) {
	r := rand.New(rand.NewSource(3))
	for round := range 300 {
		start := drawnPositions(r, 1+r.Intn(3))
		calls := drawnCalls(r, 1+round%most)
		schedule := drawnSchedule(r, len(start), calls)
		i, lift := r.Intn(len(calls)), r.Intn(len(start))
		for floor := -2; floor <= highest+2; floor++ {
			changed := clone(schedule)
			changed[i][lift] = floor
			if isSchedule(changed, len(start), calls) {
				wantCost(t, start, calls, changed)
			} else {
				wantNoSchedule(t, "another floor", start, calls, changed)
			}
		}
	}
}
