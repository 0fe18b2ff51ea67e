package lifts_test

import (
	"math/rand"
	"slices"
	"testing"

	"turndown/api"
	"turndown/lifts"
)

// wantBest tests that Best returns a schedule of this cost.
func wantBest(t *testing.T, start, calls []int, want int) {
	t.Helper()
	schedule, n, e := lifts.Best(start, calls)
	if n != want || e != api.OK || !isSchedule(schedule, len(start), calls) || costOf(start, schedule) != want {
		t.Errorf("Best(%v, %v) = %v, %d, %d, want %d", start, calls, schedule, n, e, want)
		return
	}
	wantCost(t, start, calls, schedule)
}

func wantWork(t *testing.T, start, calls, end []int, want int) {
	t.Helper()
	if n, e := lifts.Work(start, calls, end); n != want || e != api.OK {
		t.Errorf("Work(%v, %v, %v) = %d, %d, want %d", start, calls, end, n, e, want)
	}
}

// P7.2: the chapter's first two examples.
func TestExamplesOfTheBest(t *testing.T) {
	wantBest(t, []int{0, 10}, []int{6, 4, 6}, 8)
	wantBest(t, []int{5}, []int{7, 3}, 6)
	wantWork(t, []int{5}, []int{7, 3}, []int{3}, 6)
	wantWork(t, []int{5}, []int{7}, []int{5}, 4)
	wantServed(t, "Foresee", lifts.Foresee, []int{5}, []int{7, 3}, [][]int{{7}, {3}})
}

// P7.2: calls by turns, between which the best is to move a further lift once.
func TestCallsByTurns(t *testing.T) {
	for count := 2; count <= most; count += 2 {
		turns := slices.Repeat([]int{10, 8}, count/2)
		wantBest(t, []int{0, 10}, turns, min(8, 2*(count-1)))
		wantBest(t, []int{0, 0, 10}, turns, min(8, 2*(count-1)))
		wantBest(t, []int{10}, turns, 2*(count-1))
	}
	wantBest(t, []int{0, 0, 0}, slices.Repeat([]int{10, 20, 30}, 13), 60)
	wantBest(t, []int{0}, slices.Repeat([]int{30, 0}, 20), 1200)
	wantBest(t, []int{0, 0, 0}, make([]int, most), 0)
}

// P7.2: without calls, the work is the distance.
func TestWorkWithoutCalls(t *testing.T) {
	r := rand.New(rand.NewSource(4))
	for count := 1; count <= api.MaxLifts; count++ {
		start := drawnPositions(r, count)
		for _, end := range allPositions(count) {
			wantWork(t, start, nil, end, distanceOf(start, end))
			wantWork(t, end, []int{}, start, distanceOf(end, start))
		}
	}
}

// P7.2: with few calls, all schedules are tried out.
func TestFewCalls(t *testing.T) {
	r := rand.New(rand.NewSource(5))
	for _, size := range [][3]int{{1, 1, 40}, {1, 2, 40}, {1, 3, 2}, {2, 1, 40}, {2, 2, 8}, {3, 1, 10}} {
		for range size[2] {
			start, calls := drawnPositions(r, size[0]), drawnCalls(r, size[1])
			end := drawnPositions(r, size[0])
			wantWork(t, start, calls, end, triedOut(start, calls, end))
		}
	}
}

// wantAll tests Best, Work and Foresee, and returns how often Foresee had a
// choice.
func wantAll(t *testing.T, start, calls []int, ends [][]int) int {
	t.Helper()
	endings := endingsOf(start, calls)
	wantBest(t, start, calls, leastOf(endings[len(calls)]))
	for _, end := range ends {
		wantWork(t, start, calls, end, workOf(endings[len(calls)], end))
	}
	want, choices := foreseenOf(start, calls, endings)
	wantServed(t, "Foresee", lifts.Foresee, start, calls, want)
	return choices
}

// rounded returns the list with floors that can be divided by 5, with which
// sums are equal more often.
func rounded(list []int) []int {
	var result []int
	for _, floor := range list {
		result = append(result, floor-floor%5)
	}
	return result
}

// P7.2: one lift and two lifts, with calls of all kinds, up to the greatest
// number of them, against all schedules; and the work of all positions.
func TestOneOrTwoLifts(t *testing.T) {
	r := rand.New(rand.NewSource(6))
	choices := 0
	for round := range 160 {
		start := drawnPositions(r, 1+round%2)
		calls := drawnCalls(r, r.Intn(most+1))
		var ends [][]int
		if round%8 < 2 {
			ends = allPositions(len(start))
		}
		if round%4 == 3 {
			start, calls = rounded(start), rounded(calls)
		}
		choices += wantAll(t, start, calls, append(ends, start))
	}
	if choices < 40 {
		t.Errorf("Foresee had a choice only %d times", choices)
	}
}

// P7.2: so it is with three lifts; calls between two lifts lead to choices.
func TestThreeLifts(t *testing.T) {
	choices := wantAll(t, []int{0, 4, 8}, []int{2, 6, 4, 2, 6, 4}, nil)
	choices += wantAll(t, []int{0, 10, 20}, []int{5, 15, 10, 15, 5, 10, 5}, nil)
	choices += wantAll(t, []int{10, 20, 20}, []int{15, 14, 16, 15, 14, 16, 15, 14}, nil)
	if choices < 8 {
		t.Errorf("Foresee had a choice only %d times", choices)
	}
	r := rand.New(rand.NewSource(7))
	for _, count := range []int{1, 2, 3, 4, 5, 6, 7, 8, 9, 10, 12, most} {
		start, calls := drawnPositions(r, 3), drawnCalls(r, count)
		ends := [][]int{start}
		for range 20 {
			ends = append(ends, drawnPositions(r, 3))
		}
		wantAll(t, start, calls, ends)
	}
}

// P7.2: where Foresee has a choice, it goes to the lexicographically smallest
// positions.
func TestChoicesOfForesee(t *testing.T) {
	for _, c := range []struct {
		start    []int
		calls    []int
		schedule [][]int
	}{
		{[]int{0, 10}, []int{5}, [][]int{{0, 5}}},
		{[]int{0, 10, 10}, []int{5}, [][]int{{0, 5, 10}}},
		{[]int{0, 10}, []int{6, 4, 6, 4, 6, 4, 6}, [][]int{{0, 6}, {0, 4}, {0, 6}, {0, 4}, {0, 6}, {4, 6}, {4, 6}}},
		{[]int{0, 4}, []int{2, 1, 3, 2, 1, 2}, [][]int{{0, 2}, {0, 1}, {0, 3}, {0, 2}, {1, 2}, {1, 2}}},
		{[]int{0, 8}, []int{4, 6, 4, 6, 4}, [][]int{{0, 4}, {0, 6}, {0, 4}, {0, 6}, {4, 6}}},
	} {
		want, _ := foreseenOf(c.start, c.calls, endingsOf(c.start, c.calls))
		if !same(want, c.schedule) {
			t.Errorf("the schedule for %v, %v is %v", c.start, c.calls, want)
		}
		wantServed(t, "Foresee", lifts.Foresee, c.start, c.calls, c.schedule)
	}
}
