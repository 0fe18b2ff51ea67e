package frac_test

import (
	"math"
	"math/big"
	"testing"

	"turndown/api"
	"turndown/frac"
)

func numbers() []int {
	list := []int{math.MinInt, math.MinInt + 1, -1 << 62, -1 << 40, 1 << 40, 1 << 62, math.MaxInt - 1, math.MaxInt}
	for i := -40; i <= 40; i++ {
		list = append(list, i)
	}
	return list
}

// New returns the fraction that big.Rat, which is always reduced, has.
func TestNew(t *testing.T) {
	for _, num := range numbers() {
		for _, den := range numbers() {
			if den < 1 {
				continue
			}
			x := big.NewRat(int64(num), int64(den))
			want := api.Frac{Num: int(x.Num().Int64()), Den: int(x.Denom().Int64())}
			if got := frac.New(num, den); got != want {
				t.Errorf("New(%d, %d) = %v, want %v", num, den, got, want)
			}
		}
	}
}

// A fraction is valid if it is what New makes of it, and its denominator is
// at least 1.
func TestIsValid(t *testing.T) {
	for _, num := range numbers() {
		for _, den := range numbers() {
			want := false
			if den >= 1 {
				x := big.NewRat(int64(num), int64(den))
				want = x.Num().Int64() == int64(num) && x.Denom().Int64() == int64(den)
			}
			if got := frac.IsValid(api.Frac{Num: num, Den: den}); got != want {
				t.Errorf("IsValid(%d/%d) = %t", num, den, got)
			}
		}
	}
}

// The least common multiple is the first multiple of one number that the
// other one divides.
func TestCommonMultiple(t *testing.T) {
	for a := 1; a <= 60; a++ {
		for b := 1; b <= 60; b++ {
			want := a
			for want%b != 0 {
				want += a
			}
			if got := frac.CommonMultiple(a, b); got != want {
				t.Errorf("CommonMultiple(%d, %d) = %d, want %d", a, b, got, want)
			}
		}
	}
	const limit = 1 << 24
	if got := frac.CommonMultiple(limit, limit-1); got != limit*(limit-1) {
		t.Errorf("CommonMultiple of 2^24 and one less = %d", got)
	}
}
