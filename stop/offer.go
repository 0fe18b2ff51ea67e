package stop

import (
	"slices"

	"turndown/api"
	"turndown/frac"
)

const (
	maxPairs = 8  // pairs of an offer
	certain  = 16 // the weights of an offer add up to this
)

func areOffers(offers [][][2]int) bool {
	if len(offers) > api.MaxOffers {
		return false
	}
	for _, offer := range offers {
		if !isOffer(offer) {
			return false
		}
	}
	return true
}

func isOffer(offer [][2]int) bool {
	if len(offer) > maxPairs {
		return false
	}
	total := 0
	for _, pair := range offer {
		number, weight := pair[0], pair[1]
		// A greater weight could make the sum wrap around.
		if number < 0 || number > api.MaxGain || weight < 1 || weight > certain {
			return false
		}
		total += weight
	}
	return total == certain
}

// greatest returns the expectation of the greatest number of all offers.
func greatest(offers [][][2]int) api.Frac {
	total, whole := 0, 1
	for range offers {
		whole *= certain
	}
	var combine func(rest [][][2]int, most, weight int)
	combine = func(rest [][][2]int, most, weight int) {
		if len(rest) == 0 {
			total += most * weight
			return
		}
		for _, pair := range rest[0] {
			combine(rest[1:], max(most, pair[0]), weight*pair[1])
		}
	}
	combine(offers, 0, 1)
	return frac.New(total, whole)
}

// gain returns the expectation of the gain of a rule, which accepts a number
// or not, where the offers after it gain later / whole. As offers are
// independent, a rule has no use for the numbers that it has rejected.
func gain(offers [][][2]int, accepts func(number, later, whole int) bool) api.Frac {
	later, whole := 0, 1
	for _, offer := range slices.Backward(offers) {
		total := 0
		for _, pair := range offer {
			number, weight := pair[0], pair[1]
			if accepts(number, later, whole) {
				total += weight * number * whole
			} else {
				total += weight * later
			}
		}
		later, whole = total, whole*certain
	}
	return frac.New(later, whole)
}
