package frac_test

import (
	"math"
	"math/big"
	"testing"

	"turndown/api"
	"turndown/frac"
)

func numbers() []int {
	list := []int{math.MinInt, math.MinInt + 1, -1 << 62, -1 << 40, 1 << 40, 1 << 62, math.MaxInt - 1, math.MaxInt}
	for i := -40; i <= 40; i++ {
		list = append(list, i)
	}
	return list
}

// New returns the fraction that big.Rat, which is always reduced, has.
func TestNew(t *testing.T) {
	for _, num := range numbers() {
		for _, den := range numbers() {
			if den < 1 {
				continue
			}
			x := big.NewRat(int64(num), int64(den))
			want := api.Frac{Num: int(x.Num().Int64()), Den: int(x.Denom().Int64())}
			if got := frac.New(num, den); got != want {
				t.Errorf("New(%d, %d) = %v, want %v", num, den, got, want)
			}
		}
	}
}

// A fraction is valid if it is what New makes of it, and its denominator is
// at least 1.
func TestIsValid(t *testing.T) {
	for _, num := range numbers() {
		for _, den := range numbers() {
			want := false
			if den >= 1 {
				x := big.NewRat(int64(num), int64(den))
				want = x.Num().Int64() == int64(num) && x.Denom().Int64() == int64(den)
			}
			if got := frac.IsValid(api.Frac{Num: num, Den: den}); got != want {
				t.Errorf("IsValid(%d/%d) = %t", num, den, got)
			}
		}
	}
}
