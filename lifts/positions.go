package lifts

import (
	"iter"

	"turndown/api"
)

// Positions have the floors of the lifts in ascending order, and 0 behind the
// last lift.
type positions [api.MaxLifts]int

// toPositions also reports whether the list has positions of that many lifts.
func toPositions(list []int, lifts int) (positions, bool) {
	if len(list) != lifts {
		return positions{}, false
	}
	var p positions
	least := 0
	for lift, floor := range list {
		if floor < least || floor > api.MaxFloor {
			return positions{}, false
		}
		p[lift] = floor
		least = floor
	}
	return p, true
}

// allPositions visits all positions of that many lifts, in lexicographic
// order.
func allPositions(lifts int) iter.Seq[positions] {
	return func(yield func(positions) bool) {
		var p positions
		for yield(p) {
			lift := lifts - 1
			for lift >= 0 && p[lift] == api.MaxFloor {
				lift--
			}
			if lift < 0 {
				return
			}
			// The next positions are the smallest ones with a higher floor here.
			floor := p[lift] + 1
			for i := lift; i < lifts; i++ {
				p[i] = floor
			}
		}
	}
}

func distance(p, q positions) int {
	sum := 0
	for i := range p {
		sum += max(p[i]-q[i], q[i]-p[i])
	}
	return sum
}

// cost returns what the steps cost that lead from the first positions through
// all further ones.
func cost(first positions, further ...positions) int {
	sum := 0
	for _, next := range further {
		sum += distance(first, next)
		first = next
	}
	return sum
}
