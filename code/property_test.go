package code_test

import (
	"math/bits"
	"math/rand"
	"slices"
	"testing"

	"turndown/api"
	"turndown/code"
)

// bestOf is Best, of which the test needs a result without an error.
func bestOf(t *testing.T, weights []int, limit int) ([]int, int) {
	t.Helper()
	lengths, cost, e := code.Best(weights, limit)
	if len(lengths) != len(weights) || e != api.OK {
		t.Fatalf("Best(%v, %d) = %v, %d, %d", weights, limit, lengths, cost, e)
	}
	return lengths, cost
}

// leastLimit is the least limit for that many symbols.
func leastLimit(count int) int { return bits.Len(uint(count - 1)) }

// P6.4: with positive weights of at least two symbols, the least lengths are
// full; a symbol with a greater weight has no greater length.
func TestLengthsAreFullAndOrdered(t *testing.T) {
	r := rand.New(rand.NewSource(8))
	for count := 2; count <= api.MaxSymbols; count += 1 + r.Intn(4) {
		for _, weights := range drawnWeights(r, count) {
			for _, limit := range []int{leastLimit(count), leastLimit(count) + 1, 8, 32} {
				lengths, _ := bestOf(t, weights, limit)
				if slices.Min(weights) > 0 && !isFull(lengths) {
					t.Errorf("Best(%v, %d) = %v", weights, limit, lengths)
				}
				for i := range count {
					for j := range count {
						if weights[i] > weights[j] && lengths[i] > lengths[j] {
							t.Errorf("Best(%v, %d) = %v: %d and %d", weights, limit, lengths, i, j)
						}
					}
				}
			}
		}
	}
}

// P6.4: the least cost for a smaller limit is not less; from the limit of one
// less than the number of symbols on it does not change.
func TestSmallerLimits(t *testing.T) {
	r := rand.New(rand.NewSource(9))
	for _, count := range []int{1, 2, 3, 4, 5, 6, 8, 13, 20, 33, 34, 64} {
		for _, weights := range drawnWeights(r, count)[r.Intn(2):] {
			_, least := bestOf(t, weights, api.MaxBits)
			before := least
			for limit := api.MaxBits - 1; limit >= leastLimit(count); limit-- {
				_, cost := bestOf(t, weights, limit)
				if cost < before || limit >= count-1 && cost != least {
					t.Errorf("Best(%v, %d) costs %d, with one more %d", weights, limit, cost, before)
				}
				before = cost
			}
		}
	}
}

// P6.4: what was encoded is decoded, with the least lengths, too.
func TestEncodedIsDecoded(t *testing.T) {
	r := rand.New(rand.NewSource(10))
	for count := 2; count <= api.MaxSymbols; count += 1 + r.Intn(6) {
		for _, weights := range drawnWeights(r, count) {
			lengths, _ := bestOf(t, weights, leastLimit(count)+r.Intn(4))
			symbols := make([]int, 2000)
			for i := range symbols {
				symbols[i] = r.Intn(count)
			}
			text, e := code.Encode(lengths, symbols)
			if e != api.OK {
				t.Fatalf("Encode = %d", e)
			}
			if got, e := code.Decode(lengths, text); !slices.Equal(got, symbols) || e != api.OK {
				t.Errorf("Decode = %v, %d, want %v", got, e, symbols)
			}
		}
	}
}

// P6.2: no word of a code is a beginning of another one.
func TestNoWordBeginsAnother(t *testing.T) {
	r := rand.New(rand.NewSource(11))
	for range 40 {
		lengths := drawnLengths(r, 2+r.Intn(63), 32)
		words, e := code.Code(lengths[r.Intn(2):])
		if e != api.OK {
			t.Fatalf("Code(%v) = %d", lengths, e)
		}
		for i, word := range words {
			for j, other := range words {
				if i != j && len(word) <= len(other) && other[:len(word)] == word {
					t.Errorf("the code of %v has %s and %s", lengths, word, other)
				}
			}
		}
	}
}

// P6.4: if a card is changed at fewer positions than half of Free, the
// message is read, and the distance is the number of positions.
func TestChangedCards(t *testing.T) {
	r := rand.New(rand.NewSource(12))
	allTaps(func(g, h int) {
		free, e := code.Free(g, h)
		if e != api.OK {
			t.Fatalf("Free(%d, %d) = %d", g, h, e)
		}
		for count := 0; 2*count < free; count++ {
			for _, length := range []int{0, 1 + r.Intn(63), 64} {
				message := drawnText(r, length)
				card, _ := code.Card(message, g, h)
				wantRead(t, changed(r, card, count), g, h, message, count)
			}
		}
	})
}

// P6.4: and so it is for all such changes of a card.
func TestAllChanges(t *testing.T) {
	message := "1011000101"
	card, _ := code.Card(message, 13, 15)
	for i := range card {
		for j := range i + 1 {
			result := []byte(card)
			result[i] ^= 1
			if i != j {
				result[j] ^= 1
			}
			wantRead(t, string(result), 13, 15, message, distanceOf(card, string(result)))
		}
	}
}
