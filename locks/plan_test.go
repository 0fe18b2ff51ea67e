package locks_test

import (
	"testing"

	"turndown/api"
	"turndown/locks"
)

// wantPlan tests Plan for all numbers of chambers if so many are least, or
// none is enough.
func wantPlan(t *testing.T, access [][]int, d, fewest int) {
	t.Helper()
	if n, e := locks.Least(access, d); n != fewest || e != api.OK {
		t.Errorf("Least(%v, %d) = %d, %d, want %d", access, d, n, e, fewest)
	}
	for c := 1; c <= api.MaxChambers; c++ {
		cuts, e := locks.Plan(access, c, d)
		if fewest == 0 || c < fewest {
			if len(cuts) != 0 || e != api.ErrNone {
				t.Errorf("Plan(%v, %d, %d) = %v, %d, want ErrNone", access, c, d, cuts, e)
			}
			continue
		}
		if e != api.OK || !areCuts(cuts, len(access), c, d) || len(wrongPairs(access, cuts)) != 0 {
			t.Fatalf("Plan(%v, %d, %d) = %v, %d", access, c, d, cuts, e)
		}
		if e := locks.Check(access, cuts, d); e != api.OK {
			t.Errorf("Check(%v, %v, %d) = %d", access, cuts, d, e)
		}
	}
}

func areCuts(cuts [][]int, keys, c, d int) bool {
	for _, row := range cuts {
		for _, depth := range row {
			if depth < 1 || depth > d {
				return false
			}
		}
		if len(row) != c {
			return false
		}
	}
	return len(cuts) == keys
}

// P5.1: the chapter's examples.
func TestPlanExamples(t *testing.T) {
	wantPlan(t, twoAndMaster(), 2, 2)
	wantPlan(t, twoAndMaster(), 3, 1)
	wantPlan(t, ownLocks(2), 1, 0)
	for d := 1; d <= api.MaxDepths; d++ {
		wantPlan(t, [][]int{{1}}, d, 1)
		wantPlan(t, [][]int{{0}}, d, 1)
	}
}

// P5.1: keys that each have a lock of their own need different cuts, and all
// different cuts will do.
func TestPlanOfOwnLocks(t *testing.T) {
	for keys := 1; keys <= api.MaxKeys; keys++ {
		for d := 1; d <= api.MaxDepths; d++ {
			fewest, different := 1, d
			for fewest <= api.MaxChambers && different < keys {
				fewest++
				different *= d
			}
			if fewest > api.MaxChambers {
				fewest = 0
			}
			wantPlan(t, ownLocks(keys), d, fewest)
		}
	}
}

// P5.1: of locks that all keys but one open, a chamber stops those keys that
// have a depth alone. With 2 depths and 5 keys this takes 5 chambers.
func TestPlanOfOthersLocks(t *testing.T) {
	for keys := 2; keys <= api.MaxKeys; keys++ {
		for d := 1; d <= api.MaxDepths; d++ {
			fewest := 1
			if d < keys {
				fewest = 0
				for c := 1; c <= api.MaxChambers && fewest == 0; c++ {
					if c*(d-1) >= keys {
						fewest = c
					}
				}
			}
			wantPlan(t, othersLocks(keys), d, fewest)
		}
	}
}

// P5.1: as many depths as keys always suffice; so does a single depth if all
// keys have the same locks.
func TestPlanWithOneChamber(t *testing.T) {
	for _, access := range drawnPlans(1, 3) {
		for d := len(access); d <= api.MaxDepths; d++ {
			wantPlan(t, access, d, 1)
		}
	}
	for keys := 1; keys <= api.MaxKeys; keys++ {
		for count := 1; count <= api.MaxLocks; count++ {
			for number := range 2 {
				wantPlan(t, table(keys, count, number), 1, 1)
			}
		}
	}
}

// P5.1: all small access plans, against all cuts.
func TestPlanAgainstAllCuts(t *testing.T) {
	for _, size := range [][4]int{{1, 2, 4, 3}, {2, 1, 4, 3}, {2, 2, 3, 3}, {2, 3, 2, 4}, {3, 1, 2, 3}, {3, 2, 2, 3}, {3, 3, 2, 2}, {3, 2, 3, 2}, {4, 2, 2, 2}, {4, 2, 3, 1}} {
		keys, count, depths, chambers := size[0], size[1], size[2], size[3]
		for _, access := range allTables(keys, count, 0, 1) {
			for d := 1; d <= depths; d++ {
				for c := 1; c <= chambers; c++ {
					cuts, e := locks.Plan(access, c, d)
					if ok := possible(access, c, d); ok != (e == api.OK) || !ok && e != api.ErrNone {
						t.Fatalf("Plan(%v, %d, %d) = %v, %d", access, c, d, cuts, e)
					}
				}
			}
		}
	}
}

// P5.1: access plans of all sizes, against the sets of pairs that chambers
// can stop.
func TestPlanAgainstSets(t *testing.T) {
	for _, access := range drawnPlans(2, 6) {
		for d := 1; d <= 3; d++ {
			wantPlan(t, access, d, least(access, d))
		}
	}
	for _, access := range drawnPlans(3, 40) {
		wantPlan(t, access, 2, least(access, 2))
	}
	for _, access := range allTables(3, 3, 0, 1) {
		wantPlan(t, access, 2, least(access, 2))
	}
	for keys := 5; keys <= api.MaxKeys; keys++ {
		for _, access := range [][][]int{twoAndMaster(), ownLocks(4), othersLocks(keys)} {
			wantPlan(t, access, 4, least(access, 4))
		}
	}
}
