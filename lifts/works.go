package lifts

import "math"

// Works have, after some calls, the work of all positions that serve the last
// one: this is the least cost of a schedule that ends there.
type works map[positions]int

// works returns the works after each one of the calls. Positions that serve a
// call have the same work after it as before it.
func (h hall) works() []works {
	var all []works
	for _, floor := range h.calls {
		here := works{}
		for p := range h.serving(floor) {
			_, work := h.origin(all, p)
			here[p] = work
		}
		all = append(all, here)
	}
	return all
}

// origin returns the positions from which one best goes to p, after the calls
// of which the works are given, and the work of p after these calls. Only the
// lift that serves the last call needs to move from there: a schedule costs no
// more if the other lifts go their ways before that call, instead of after it.
func (h hall) origin(before []works, p positions) (positions, int) {
	if len(before) == 0 {
		return h.start, distance(h.start, p)
	}
	last := len(before) - 1
	best, least := positions{}, math.MaxInt
	for lift := range h.lifts {
		from := h.moved(p, lift, h.calls[last])
		if work := before[last][from] + distance(from, p); work < least {
			best, least = from, work
		}
	}
	return best, least
}

// cheapest returns the positions with the least price among those that serve
// a call, the lexicographically smallest ones of several.
func (h hall) cheapest(floor int, price func(positions) int) positions {
	best, least := positions{}, math.MaxInt
	for p := range h.serving(floor) {
		if n := price(p); n < least {
			best, least = p, n
		}
	}
	return best
}

// best returns a schedule of the least cost. It goes backwards, from the last
// positions that cost least to those from which one best goes there.
func (h hall) best() []positions {
	count := len(h.calls)
	if count == 0 {
		return nil
	}
	all := h.works()
	here := h.cheapest(h.calls[count-1], func(p positions) int { return all[count-1][p] })
	schedule := make([]positions, count)
	for i := count - 1; i >= 0; i-- {
		schedule[i] = here
		here, _ = h.origin(all[:i], here)
	}
	return schedule
}

// foresee returns the schedule that goes to the positions with the least sum
// of the work and the distance from where the lifts are.
func (h hall) foresee() []positions {
	var schedule []positions
	here := h.start
	for i, after := range h.works() {
		here = h.cheapest(h.calls[i], func(p positions) int { return after[p] + distance(here, p) })
		schedule = append(schedule, here)
	}
	return schedule
}
