package lifts_test

import (
	"math/rand"
	"testing"

	"turndown/api"
	"turndown/lifts"
)

func wantPotential(t *testing.T, careful, best []int, want int) {
	t.Helper()
	if n, e := lifts.Potential(careful, best); n != want || e != api.OK {
		t.Errorf("Potential(%v, %v) = %d, %d, want %d", careful, best, n, e, want)
	}
}

// P7.3: the chapter's third example, and some more that are easily checked.
func TestExamplesOfPotential(t *testing.T) {
	wantPotential(t, []int{0, 10}, []int{0, 10}, 10)
	wantPotential(t, []int{0, 3, 10}, []int{1, 3, 9}, 26)
	wantPotential(t, []int{7}, []int{7}, 0)
	wantPotential(t, []int{7}, []int{30}, 23)
	wantPotential(t, []int{5, 5}, []int{0, 10}, 20)
	wantPotential(t, []int{0, 10}, []int{5, 5}, 30)
	wantPotential(t, []int{0, 0, 30}, []int{0, 30, 30}, 150)
	wantPotential(t, []int{30, 30, 30}, []int{0, 0, 0}, 270)
}

// P7.3: all positions of one lift and of two lifts, and drawn ones of three.
func TestPotential(t *testing.T) {
	for count := 1; count <= 2; count++ {
		list := allPositions(count)
		for _, careful := range list {
			for _, best := range list {
				wantPotential(t, careful, best, potentialOf(careful, best))
			}
		}
	}
	r := rand.New(rand.NewSource(8))
	for _, careful := range allPositions(3) {
		for range 8 {
			best := drawnPositions(r, 3)
			wantPotential(t, careful, best, potentialOf(careful, best))
		}
	}
}
