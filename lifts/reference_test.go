package lifts_test

import (
	"math"
	"math/rand"
	"slices"
)

// This file has slow computations, straight from the chapter's terms, which
// share no code with the package.

// highest and most are the chapter's limits of floors and calls.
const (
	highest = 30
	most    = 40
)

// allPositions lists all positions of that many lifts.
func allPositions(lifts int) [][]int {
	list := [][]int{nil}
	for range lifts {
		var longer [][]int
		for _, p := range list {
			for floor := range highest + 1 {
				if len(p) == 0 || p[len(p)-1] <= floor {
					longer = append(longer, append(slices.Clone(p), floor))
				}
			}
		}
		list = longer
	}
	return list
}

// serving lists the positions of that many lifts in which the floor occurs.
func serving(lifts, floor int) [][]int {
	var list [][]int
	for _, p := range allPositions(lifts) {
		if slices.Contains(p, floor) {
			list = append(list, p)
		}
	}
	return list
}

func distanceOf(p, q []int) int {
	sum := 0
	for i, floor := range p {
		if floor < q[i] {
			sum += q[i] - floor
		} else {
			sum += floor - q[i]
		}
	}
	return sum
}

func costOf(start []int, schedule [][]int) int {
	sum := 0
	for i, p := range schedule {
		if i == 0 {
			sum += distanceOf(start, p)
		} else {
			sum += distanceOf(schedule[i-1], p)
		}
	}
	return sum
}

func isSchedule(schedule [][]int, lifts int, calls []int) bool {
	if len(schedule) != len(calls) {
		return false
	}
	for i, p := range schedule {
		if len(p) != lifts || !slices.IsSorted(p) || p[0] < 0 || p[lifts-1] > highest || !slices.Contains(p, calls[i]) {
			return false
		}
	}
	return true
}

// carefulStep moves the lifts floor by floor, until one is at this one.
func carefulStep(p []int, floor int) []int {
	p = slices.Clone(p)
	for !slices.Contains(p, floor) {
		above, below := -1, -1
		for lift, at := range p {
			if at > floor && (above < 0 || at < p[above]) {
				above = lift
			}
			if at < floor && (below < 0 || at > p[below]) {
				below = lift
			}
		}
		if above >= 0 {
			p[above]--
		}
		if below >= 0 {
			p[below]++
		}
	}
	slices.Sort(p)
	return p
}

// nearestStep moves the lift that is nearest, the lower one of two.
func nearestStep(p []int, floor int) []int {
	p = slices.Clone(p)
	for away := 0; ; away++ {
		for _, at := range []int{floor - away, floor + away} {
			if lift := slices.Index(p, at); lift >= 0 {
				p[lift] = floor
				slices.Sort(p)
				return p
			}
		}
	}
}

// steps returns the schedule that serves each call by one step.
func steps(start, calls []int, step func([]int, int) []int) [][]int {
	var schedule [][]int
	for _, floor := range calls {
		start = step(start, floor)
		schedule = append(schedule, start)
	}
	return schedule
}

// An ending has positions at which a schedule can end, and the least cost of
// such a schedule.
type ending struct {
	at   []int
	cost int
}

// workOf returns the work of positions by the endings of the schedules for the
// calls.
func workOf(endings []ending, p []int) int {
	least := math.MaxInt
	for _, e := range endings {
		least = min(least, e.cost+distanceOf(e.at, p))
	}
	return least
}

// endingsOf lists the endings of the schedules for no calls, for the first
// call, for the first two calls, and so on.
func endingsOf(start, calls []int) [][]ending {
	all := [][]ending{{{start, 0}}}
	for i, floor := range calls {
		var list []ending
		for _, p := range serving(len(start), floor) {
			list = append(list, ending{p, workOf(all[i], p)})
		}
		all = append(all, list)
	}
	return all
}

// leastOf returns the least cost of a schedule with these endings.
func leastOf(endings []ending) int {
	least := math.MaxInt
	for _, e := range endings {
		least = min(least, e.cost)
	}
	return least
}

// foreseenOf returns the schedule of Foresee, by the endings for the calls, and
// how often there was a choice.
func foreseenOf(start, calls []int, endings [][]ending) ([][]int, int) {
	var schedule [][]int
	choices := 0
	here := start
	for i, floor := range calls {
		var best []int
		least, count := math.MaxInt, 0
		for _, p := range serving(len(start), floor) {
			sum := workOf(endings[i+1], p) + distanceOf(here, p)
			if sum == least {
				count++
			}
			if sum < least {
				count = 1
			}
			if sum < least || sum == least && slices.Compare(p, best) < 0 {
				best, least = p, sum
			}
		}
		if count > 1 {
			choices++
		}
		here = best
		schedule = append(schedule, best)
	}
	return schedule, choices
}

// triedOut returns the work of positions after calls, by trying out all
// schedules.
func triedOut(start, calls, end []int) int {
	if len(calls) == 0 {
		return distanceOf(start, end)
	}
	least := math.MaxInt
	for _, p := range serving(len(start), calls[0]) {
		least = min(least, distanceOf(start, p)+triedOut(p, calls[1:], end))
	}
	return least
}

// potentialOf is the chapter's potential of two positions.
func potentialOf(careful, best []int) int {
	sum := len(careful) * distanceOf(careful, best)
	for i, floor := range careful {
		for _, other := range careful[i+1:] {
			sum += max(floor, other) - min(floor, other)
		}
	}
	return sum
}

// drawnPositions returns positions of that many lifts, some at the same floor.
func drawnPositions(r *rand.Rand, lifts int) []int {
	p := make([]int, lifts)
	width := 1 + r.Intn(highest+1)
	for i := range p {
		p[i] = r.Intn(width)
	}
	if r.Intn(2) == 0 {
		for i := range p {
			p[i] = highest - p[i]
		}
	}
	slices.Sort(p)
	return p
}

// drawnCalls returns that many calls of one of several kinds: of all floors,
// of a few floors, by turns, or of floors that are near each other.
func drawnCalls(r *rand.Rand, count int) []int {
	calls := make([]int, count)
	few := []int{r.Intn(highest + 1), r.Intn(highest + 1), r.Intn(highest + 1), r.Intn(highest + 1)}
	kind := r.Intn(4)
	for i := range calls {
		switch kind {
		case 0:
			calls[i] = r.Intn(highest + 1)
		case 1:
			calls[i] = few[r.Intn(4)]
		case 2:
			calls[i] = few[i%4]
		default:
			calls[i] = min(max(few[0]+r.Intn(9)-4, 0), highest)
			few[0] = calls[i]
		}
	}
	return calls
}

// drawnSchedule returns some schedule for the calls.
func drawnSchedule(r *rand.Rand, lifts int, calls []int) [][]int {
	var schedule [][]int
	for _, floor := range calls {
		p := drawnPositions(r, lifts)
		p[r.Intn(lifts)] = floor
		slices.Sort(p)
		schedule = append(schedule, p)
	}
	return schedule
}

func clone(lists [][]int) [][]int {
	var result [][]int
	for _, list := range lists {
		result = append(result, slices.Clone(list))
	}
	return result
}

func same(s, t [][]int) bool { return slices.EqualFunc(s, t, slices.Equal[[]int]) }
