package lifts

import (
	"iter"
	"slices"

	"turndown/api"
)

// A hall has lifts, where they are at first, and the calls that come.
type hall struct {
	lifts int
	start positions
	calls []int
}

// toHall also reports whether start are positions and calls are calls. It
// tests the lengths first, so that lists of any length are rejected without
// being read.
func toHall(start, calls []int) (hall, bool) {
	if len(start) < 1 || len(start) > api.MaxLifts || len(calls) > api.MaxCalls {
		return hall{}, false
	}
	for _, floor := range calls {
		if floor < 0 || floor > api.MaxFloor {
			return hall{}, false
		}
	}
	p, ok := toPositions(start, len(start))
	return hall{len(start), p, calls}, ok
}

// toSchedule also reports whether the lists are a schedule for the calls.
func (h hall) toSchedule(lists [][]int) ([]positions, bool) {
	if len(lists) != len(h.calls) {
		return nil, false
	}
	var schedule []positions
	for i, list := range lists {
		p, ok := toPositions(list, h.lifts)
		if !ok || !slices.Contains(list, h.calls[i]) {
			return nil, false
		}
		schedule = append(schedule, p)
	}
	return schedule, true
}

// priced returns the schedule as lists, and its cost.
func (h hall) priced(schedule []positions) ([][]int, int, api.Errno) {
	var lists [][]int
	for _, p := range schedule {
		lists = append(lists, slices.Clone(p[:h.lifts]))
	}
	return lists, cost(h.start, schedule...), api.OK
}

// serving visits the positions that serve a call, in lexicographic order: one
// lift is there, and the other ones are anywhere. Their positions come in this
// order, and keep it when the same floor is added to all of them.
func (h hall) serving(floor int) iter.Seq[positions] {
	return func(yield func(positions) bool) {
		last := h.lifts - 1
		for others := range allPositions(last) {
			if !yield(h.moved(others, last, floor)) {
				return
			}
		}
	}
}

// moved returns the positions after one lift has gone to a floor.
func (h hall) moved(p positions, lift, floor int) positions {
	p[lift] = floor
	slices.Sort(p[:h.lifts])
	return p
}

// serve returns the schedule of going on from each call to the next one in
// this way.
func (h hall) serve(way func(positions, int) positions) []positions {
	var schedule []positions
	here := h.start
	for _, floor := range h.calls {
		here = way(here, floor)
		schedule = append(schedule, here)
	}
	return schedule
}

// careful returns where the lifts are after one call, served in the careful
// way.
func (h hall) careful(p positions, floor int) positions {
	above, isThere := slices.BinarySearch(p[:h.lifts], floor)
	if isThere {
		return p
	}
	below := above - 1
	switch {
	case above == 0:
		p[above] = floor
	case above == h.lifts:
		p[below] = floor
	default:
		way := min(p[above]-floor, floor-p[below])
		p[above] -= way
		p[below] += way
	}
	return p
}

// nearest returns where the lifts are after one call, served by the nearest
// lift. The lifts keep their order, as none is on its way.
func (h hall) nearest(p positions, floor int) positions {
	above, isThere := slices.BinarySearch(p[:h.lifts], floor)
	if isThere {
		return p
	}
	below := above - 1
	if above == 0 || above < h.lifts && p[above]-floor < floor-p[below] {
		p[above] = floor
	} else {
		p[below] = floor
	}
	return p
}
