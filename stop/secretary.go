package stop

import (
	"turndown/api"
	"turndown/frac"
)

// multiple is the least common multiple of the numbers from 1 to
// MaxCandidates.
const multiple = 232792560

// chosenWeight returns the probability of accepting the best candidate, times
// n and multiple, so that it is an int.
func chosenWeight(n, skip int) int {
	if skip == 0 { // the first one is accepted
		return multiple
	}
	weight := 0
	// The best one has each place with the same probability. It is accepted
	// if the best one of those before it has been skipped.
	for before := skip; before < n; before++ {
		weight += multiple / before * skip
	}
	return weight
}

func chosen(n, skip int) api.Frac {
	return frac.New(chosenWeight(n, skip), n*multiple)
}
