package lifts_test

import (
	"math/rand"
	"slices"
	"testing"

	"turndown/api"
	"turndown/lifts"
)

// served is a function's schedule without an error, with the start before it.
func served(t *testing.T, serve server, start, calls []int) ([][]int, int) {
	t.Helper()
	schedule, n, e := serve(start, calls)
	if e != api.OK || !isSchedule(schedule, len(start), calls) {
		t.Fatalf("for %v and %v: %v, %d", start, calls, schedule, e)
	}
	return append([][]int{start}, schedule...), n
}

func potential(t *testing.T, careful, best []int) int {
	t.Helper()
	n, e := lifts.Potential(careful, best)
	if e != api.OK {
		t.Fatalf("Potential(%v, %v): %d", careful, best, e)
	}
	return n
}

// work is Work without an error.
func work(t *testing.T, start, calls, end []int) int {
	t.Helper()
	n, e := lifts.Work(start, calls, end)
	if e != api.OK {
		t.Fatalf("Work(%v, %v, %v): %d", start, calls, end, e)
	}
	return n
}

// P7.4: no step of Careful costs, with the change of the potential, more than
// k times the step of any schedule: the best one, others, and drawn ones.
func TestStepsOfCareful(t *testing.T) {
	r := rand.New(rand.NewSource(9))
	for round := range 120 {
		start := drawnPositions(r, 1+r.Intn(3))
		calls := drawnCalls(r, 1+round%most)
		careful, _ := served(t, lifts.Careful, start, calls)
		best, _ := served(t, lifts.Best, start, calls)
		nearest, _ := served(t, lifts.Nearest, start, calls)
		foreseen, _ := served(t, lifts.Foresee, start, calls)
		drawn := append([][]int{start}, drawnSchedule(r, len(start), calls)...)
		for _, schedule := range [][][]int{best, nearest, foreseen, drawn, careful} {
			for i := range calls {
				paid := distanceOf(careful[i], careful[i+1])
				change := potential(t, careful[i+1], schedule[i+1]) - potential(t, careful[i], schedule[i])
				if paid+change > len(start)*distanceOf(schedule[i], schedule[i+1]) {
					t.Errorf("the step %d for %v, %v costs %d, and the potential changes by %d", i, start, calls, paid, change)
				}
			}
		}
	}
}

// P7.4: Careful costs at most k times as much as the best schedule, plus the
// potential of the start and the start; and no schedule costs less than Best.
func TestBoundsOfCosts(t *testing.T) {
	r := rand.New(rand.NewSource(10))
	for round := range 160 {
		start := drawnPositions(r, 1+r.Intn(3))
		calls := drawnCalls(r, round%(most+1))
		_, least := served(t, lifts.Best, start, calls)
		_, paid := served(t, lifts.Careful, start, calls)
		if paid > len(start)*least+potential(t, start, start) {
			t.Errorf("for %v and %v Careful costs %d, the best %d", start, calls, paid, least)
		}
		for name, serve := range map[string]server{"Careful": lifts.Careful, "Nearest": lifts.Nearest, "Foresee": lifts.Foresee} {
			if _, n := served(t, serve, start, calls); n < least {
				t.Errorf("for %v and %v %s costs %d, the best %d", start, calls, name, n, least)
			}
		}
		for range 3 {
			if n, _ := lifts.Cost(start, calls, drawnSchedule(r, len(start), calls)); n < least {
				t.Errorf("for %v and %v a schedule costs %d, the best %d", start, calls, n, least)
			}
		}
	}
}

// P7.4: the work of two positions differs at most by their distance; it never
// decreases by a further call. The least work is the cost of Best.
func TestWorks(t *testing.T) {
	r := rand.New(rand.NewSource(11))
	for round := range 80 {
		start := drawnPositions(r, 1+r.Intn(3))
		calls := drawnCalls(r, 1+round%most)
		_, least := served(t, lifts.Best, start, calls)
		for range 4 {
			p, q := drawnPositions(r, len(start)), drawnPositions(r, len(start))
			here, there := work(t, start, calls, p), work(t, start, calls, q)
			if max(here-there, there-here) > distanceOf(p, q) || here < least {
				t.Errorf("after %v and %v: work %d of %v, %d of %v, and the least %d", start, calls, here, p, there, q, least)
			}
			if before := work(t, start, calls[:len(calls)-1], p); before > here {
				t.Errorf("after %v and %v: work %d of %v, before the last call %d", start, calls, here, p, before)
			}
		}
	}
}

// P7.2: the work of the positions at which the best schedule ends is its cost.
func TestWorkOfTheBest(t *testing.T) {
	r := rand.New(rand.NewSource(12))
	for round := range most + 1 {
		start := drawnPositions(r, 1+r.Intn(3))
		calls := drawnCalls(r, round)
		schedule, least := served(t, lifts.Best, start, calls)
		for count := range len(calls) + 1 {
			paid := costOf(start, schedule[1:count+1])
			if n := work(t, start, calls[:count], schedule[count]); n != paid {
				t.Errorf("after %v and %v: work %d of %v, which the best pays with %d", start, calls[:count], n, schedule[count], paid)
			}
		}
		if last := schedule[len(calls)]; work(t, start, calls, last) != least {
			t.Errorf("the best schedule for %v and %v costs %d", start, calls, least)
		}
	}
}

// The hall has a mirror, in which floors are counted from above. Careful and
// Best cost the same there.
func TestMirror(t *testing.T) {
	r := rand.New(rand.NewSource(13))
	mirrored := func(list []int) []int {
		var result []int
		for _, floor := range list {
			result = append(result, highest-floor)
		}
		return result
	}
	for round := range 80 {
		start := drawnPositions(r, 1+r.Intn(3))
		calls := drawnCalls(r, round%(most+1))
		other := mirrored(start)
		slices.Sort(other)
		for name, serve := range map[string]server{"Careful": lifts.Careful, "Best": lifts.Best} {
			_, n := served(t, serve, start, calls)
			if _, m := served(t, serve, other, mirrored(calls)); m != n {
				t.Errorf("for %v and %v %s costs %d, in the mirror %d", start, calls, name, n, m)
			}
		}
	}
}
