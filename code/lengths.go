package code

import (
	"cmp"
	"slices"

	"turndown/api"
)

// areWeights and areLengths tell whether a list is what the chapter calls so.
func areWeights(list []int) bool { return isForSymbols(list, api.MaxWeight) }
func areLengths(list []int) bool { return isForSymbols(list, api.MaxBits) }

func isForSymbols(list []int, most int) bool {
	if len(list) < 1 || len(list) > api.MaxSymbols {
		return false
	}
	return areFromZeroTo(most, list)
}

func areFromZeroTo(most int, list []int) bool {
	for _, number := range list {
		if number < 0 || number > most {
			return false
		}
	}
	return true
}

// cost returns the sum of the weights times the lengths.
func cost(weights, lengths []int) int {
	sum := 0
	for symbol, weight := range weights {
		sum += weight * lengths[symbol]
	}
	return sum
}

// arePossible tells whether words of these lengths exist of which none is a
// beginning of another one. It counts how many of the longest words each word
// takes up, instead of adding fractions.
func arePossible(lengths []int) bool {
	taken := 0
	for _, length := range lengths {
		taken += 1 << (api.MaxBits - length)
	}
	return taken <= 1<<api.MaxBits
}

// sortBy sorts a list by its elements' keys, and keeps the order of elements
// with equal keys.
func sortBy[T any](list []T, key func(T) int) {
	slices.SortStableFunc(list, func(a, b T) int { return cmp.Compare(key(a), key(b)) })
}

// A parcel is a number of bits that are given to symbols: each one to a
// symbol, whose word becomes longer by it. Its weight is what this costs.
type parcel struct {
	weight int
	bits   [api.MaxSymbols]uint8 // of each symbol, at most MaxBits
}

func (p parcel) with(q parcel) parcel {
	p.weight += q.weight
	for symbol, count := range q.bits {
		p.bits[symbol] += count
	}
	return p
}

// best returns possible lengths up to the limit, of the least cost. There
// must be such ones.
//
// A word of the length l is paid for by coins, one for each of its bits, of
// the values 1/2, 1/4, and so on: together 1 - 2^-l. So n lengths are possible
// if the coins of all of them have at least the value n-1. Whatever coins of
// this value are taken, their numbers are possible lengths, since as many
// coins of the greatest values have no smaller value. So the cheapest coins of
// the value n-1 are sought, from the smallest value on: these are of use only
// in pairs, which then are like coins of twice the value.
func best(weights []int, limit int) []int {
	single := singles(weights)
	var list []parcel
	for range limit {
		list = append(slices.Clone(single), inPairs(list)...)
		sortBy(list, func(p parcel) int { return p.weight })
	}
	var all parcel
	for _, half := range list[:2*(len(weights)-1)] {
		all = all.with(half)
	}
	lengths := make([]int, len(weights))
	for symbol := range lengths {
		lengths[symbol] = int(all.bits[symbol])
	}
	return lengths
}

// singles returns the parcels of one bit for one symbol.
func singles(weights []int) []parcel {
	list := make([]parcel, len(weights))
	for symbol, weight := range weights {
		list[symbol].weight = weight
		list[symbol].bits[symbol] = 1
	}
	return list
}

// inPairs joins the first two parcels, the next two, and so on. If one is left
// over, then the most expensive one, which nothing needs.
func inPairs(list []parcel) []parcel {
	var joined []parcel
	for i := range len(list) / 2 {
		joined = append(joined, list[2*i].with(list[2*i+1]))
	}
	return joined
}
