package locks_test

import (
	"fmt"
	"math/rand"
	"slices"
	"testing"

	"turndown/api"
	"turndown/locks"
)

// wantCuts compares what the package says of these cuts with the terms.
func wantCuts(t *testing.T, access, cuts [][]int, d int) {
	t.Helper()
	want := wrongPairs(access, cuts)
	if list, e := locks.Wrong(access, cuts, d); !slices.Equal(list, want) || e != api.OK {
		t.Fatalf("Wrong(%v, %v, %d) = %v, %d, want %v", access, cuts, d, list, e, want)
	}
	ruling := api.OK
	if len(want) > 0 {
		ruling = api.ErrAnswer
	}
	if e := locks.Check(access, cuts, d); e != ruling {
		t.Fatalf("Check(%v, %v, %d) = %d, want %d", access, cuts, d, e, ruling)
	}
	for lock := range access[0] {
		number := strangers(access, cuts, d, lock)
		if n, e := locks.Strangers(access, cuts, d, lock); n != number || e != api.OK {
			t.Fatalf("Strangers(%v, %v, %d, %d) = %d, %d, want %d", access, cuts, d, lock, n, e, number)
		}
	}
}

// P5.2: the chapter's first example, and the same with a wrong cut.
func TestCheckExamples(t *testing.T) {
	access, cuts := twoAndMaster(), [][]int{{1, 1}, {2, 2}, {1, 2}}
	if e := locks.Check(access, cuts, 2); e != api.OK {
		t.Errorf("Check = %d", e)
	}
	if list, e := locks.Wrong(access, cuts, 2); len(list) != 0 || e != api.OK {
		t.Errorf("Wrong = %v, %d", list, e)
	}
	for lock := range 2 {
		for d := 2; d <= api.MaxDepths; d++ {
			if n, e := locks.Strangers(access, cuts, d, lock); n != 2 || e != api.OK {
				t.Errorf("Strangers of %d with %d depths = %d, %d", lock, d, n, e)
			}
		}
	}
	cuts[1][0] = 1
	if e := locks.Check(access, cuts, 2); e != api.ErrAnswer {
		t.Errorf("Check of %v = %d", cuts, e)
	}
	if list, e := locks.Wrong(access, cuts, 2); !slices.Equal(list, [][2]int{{1, 0}}) || e != api.OK {
		t.Errorf("Wrong of %v = %v, %d", cuts, list, e)
	}
}

// P5.2: a key that fits into a lock with the pins of several keys opens it,
// though no key that is meant to has its cuts.
func TestPinsOfSeveralKeys(t *testing.T) {
	access, cuts := [][]int{{1}, {1}, {0}, {0}}, [][]int{{1, 2}, {3, 4}, {3, 2}, {1, 3}}
	if list, e := locks.Wrong(access, cuts, 4); !slices.Equal(list, [][2]int{{2, 0}}) || e != api.OK {
		t.Errorf("Wrong = %v, %d", list, e)
	}
	if n, e := locks.Strangers(access, cuts, 4, 0); n != 4 || e != api.OK {
		t.Errorf("Strangers = %d, %d", n, e)
	}
}

// P5.2: a lock that no key is meant to open is opened by none.
func TestLockWithoutKeys(t *testing.T) {
	for keys := 1; keys <= api.MaxKeys; keys++ {
		for c := 1; c <= api.MaxChambers; c++ {
			cuts := table(keys, c, 1)
			for count := 1; count <= api.MaxLocks; count++ {
				access := table(keys, count, 0)
				if e := locks.Check(access, cuts, 1); e != api.OK {
					t.Errorf("Check(%v, %v) = %d", access, cuts, e)
				}
				if n, e := locks.Strangers(access, cuts, 4, count-1); n != 0 || e != api.OK {
					t.Errorf("Strangers(%v, %v) = %d, %d", access, cuts, n, e)
				}
				wantCuts(t, access, cuts, 2)
			}
		}
	}
}

// P5.2: the greatest system: all keys are strangers.
func TestAllKeysAreStrangers(t *testing.T) {
	var cuts [][]int
	for depth := range api.MaxKeys {
		cuts = append(cuts, slices.Repeat([]int{depth%4 + 1}, api.MaxChambers))
	}
	access := table(api.MaxKeys, api.MaxLocks, 1)
	if n, e := locks.Strangers(access, cuts, 4, 5); n != 256 || e != api.OK {
		t.Errorf("Strangers = %d, %d", n, e)
	}
	access[5] = table(1, api.MaxLocks, 0)[0]
	want := [][2]int{{5, 0}, {5, 1}, {5, 2}, {5, 3}, {5, 4}, {5, 5}}
	if list, e := locks.Wrong(access, cuts, 4); !slices.Equal(list, want) || e != api.OK {
		t.Errorf("Wrong = %v, %d", list, e)
	}
}

// P5.2: all small cuts, and drawn ones of all sizes.
func TestCheckAgainstTerms(t *testing.T) {
	for _, size := range [][4]int{{1, 2, 2, 2}, {2, 2, 2, 2}, {2, 3, 1, 3}, {3, 2, 1, 3}, {3, 2, 2, 2}, {4, 1, 2, 2}} {
		all := allTables(size[0], size[2], 1, size[3])
		for _, access := range allTables(size[0], size[1], 0, 1) {
			for _, cuts := range all {
				wantCuts(t, access, cuts, size[3])
			}
		}
	}
	r := rand.New(rand.NewSource(4))
	for _, access := range drawnPlans(5, 10) {
		for c := 1; c <= api.MaxChambers; c++ {
			d := 1 + r.Intn(api.MaxDepths)
			wantCuts(t, access, drawnCuts(r, len(access), c, d), d)
		}
	}
}

// merged is Merge by the locks of the keys as texts.
func merged(access [][]int) ([][]int, []int) {
	places := map[string]int{}
	var kept [][]int
	var numbers []int
	for _, row := range access {
		text := fmt.Sprint(row)
		if _, ok := places[text]; !ok {
			places[text] = len(kept)
			kept = append(kept, row)
		}
		numbers = append(numbers, places[text])
	}
	return kept, numbers
}

// P5.3: only the first of keys with the same locks is kept, in their order.
func TestMerge(t *testing.T) {
	cases := []struct {
		access, kept [][]int
		numbers      []int
	}{
		{[][]int{{1, 0}, {0, 1}, {1, 0}}, [][]int{{1, 0}, {0, 1}}, []int{0, 1, 0}},
		{[][]int{{0, 1}, {1, 0}, {1, 0}, {0, 1}, {1, 1}}, [][]int{{0, 1}, {1, 0}, {1, 1}}, []int{0, 1, 1, 0, 2}},
		{[][]int{{1}}, [][]int{{1}}, []int{0}},
		{[][]int{{0}, {0}}, [][]int{{0}}, []int{0, 0}},
		{table(6, 6, 1), table(1, 6, 1), make([]int, 6)},
		{ownLocks(6), ownLocks(6), []int{0, 1, 2, 3, 4, 5}},
	}
	for _, c := range cases {
		if kept, numbers, e := locks.Merge(c.access); !same(kept, c.kept) || !slices.Equal(numbers, c.numbers) || e != api.OK {
			t.Errorf("Merge(%v) = %v, %v, %d", c.access, kept, numbers, e)
		}
	}
	plans := append(drawnPlans(6, 20), allTables(4, 2, 0, 1)...)
	for _, access := range append(plans, allTables(3, 3, 0, 1)...) {
		want, places := merged(access)
		if kept, numbers, e := locks.Merge(access); !same(kept, want) || !slices.Equal(numbers, places) || e != api.OK {
			t.Errorf("Merge(%v) = %v, %v, %d", access, kept, numbers, e)
		}
	}
}
