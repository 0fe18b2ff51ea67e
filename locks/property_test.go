package locks_test

import (
	"fmt"
	"math/rand"
	"slices"
	"testing"

	"turndown/api"
	"turndown/locks"
)

// isNoMore reports whether a number of chambers is at most another one, where
// 0 says that none suffices.
func isNoMore(n, m int) bool { return m == 0 || n != 0 && n <= m }

// leastOf is Least, of which the test needs a result without an error.
func leastOf(t *testing.T, access [][]int, d int) int {
	t.Helper()
	n, e := locks.Least(access, d)
	if n < 0 || n > api.MaxChambers || e != api.OK {
		t.Fatalf("Least(%v, %d) = %d, %d", access, d, n, e)
	}
	return n
}

// planned returns correct cuts with the fewest chambers, if there are any.
func planned(t *testing.T, access [][]int, d int) ([][]int, bool) {
	t.Helper()
	n := leastOf(t, access, d)
	if n == 0 {
		return nil, false
	}
	cuts, e := locks.Plan(access, n, d)
	if e != api.OK {
		t.Fatalf("Plan(%v, %d, %d) = %d", access, n, d, e)
	}
	return cuts, true
}

func withoutColumn(access [][]int, column int) [][]int {
	access = clone(access)
	for i, row := range access {
		access[i] = slices.Delete(row, column, column+1)
	}
	return access
}

// P5.4: with a further chamber or depth, what is possible remains possible.
func TestFurtherChambersAndDepths(t *testing.T) {
	r := rand.New(rand.NewSource(7))
	for _, access := range drawnPlans(8, 10) {
		for d := 1; d <= api.MaxDepths; d++ {
			if d < api.MaxDepths && !isNoMore(leastOf(t, access, d+1), leastOf(t, access, d)) {
				t.Errorf("%v needs fewer chambers with %d depths than with %d", access, d, d+1)
			}
			cuts, ok := planned(t, access, d)
			if !ok {
				continue
			}
			for c := len(cuts[0]); c < api.MaxChambers; c++ {
				for key := range cuts {
					cuts[key] = append(cuts[key], 1+r.Intn(d))
				}
				if _, e := locks.Plan(access, c+1, d); e != api.OK {
					t.Errorf("Plan(%v, %d, %d) = %d", access, c+1, d, e)
				}
				for more := d; more <= api.MaxDepths; more++ {
					if e := locks.Check(access, cuts, more); e != api.OK {
						t.Errorf("Check(%v, %v, %d) = %d", access, cuts, more, e)
					}
				}
			}
		}
	}
}

// P5.4: without a key, or a lock, what is possible remains possible.
func TestFewerKeysAndLocks(t *testing.T) {
	for _, access := range drawnPlans(9, 6) {
		for d := 1; d <= api.MaxDepths; d++ {
			n := leastOf(t, access, d)
			cuts, ok := planned(t, access, d)
			for key := 0; key < len(access) && len(access) > 1; key++ {
				rest := slices.Delete(clone(access), key, key+1)
				if !isNoMore(leastOf(t, rest, d), n) {
					t.Errorf("%v with %d depths needs fewer chambers than without the key %d", access, d, key)
				}
				if ok && locks.Check(rest, slices.Delete(clone(cuts), key, key+1), d) != api.OK {
					t.Errorf("%v, %v: wrong without the key %d", access, cuts, key)
				}
			}
			for lock := 0; lock < len(access[0]) && len(access[0]) > 1; lock++ {
				rest := withoutColumn(access, lock)
				if !isNoMore(leastOf(t, rest, d), n) {
					t.Errorf("%v with %d depths needs fewer chambers than without the lock %d", access, d, lock)
				}
				if ok && locks.Check(rest, cuts, d) != api.OK {
					t.Errorf("%v, %v: wrong without the lock %d", access, cuts, lock)
				}
			}
		}
	}
}

// P5.4: keys with the same locks need no more chambers than one of them.
func TestKeysWithTheSameLocks(t *testing.T) {
	r := rand.New(rand.NewSource(10))
	for _, access := range drawnPlans(11, 12) {
		kept, numbers, e := locks.Merge(access)
		if e != api.OK {
			t.Fatalf("Merge(%v) = %d", access, e)
		}
		more := append(clone(access), slices.Clone(access[r.Intn(len(access))]))
		for d := 1; d <= api.MaxDepths; d++ {
			n := leastOf(t, kept, d)
			if leastOf(t, access, d) != n || len(access) < api.MaxKeys && leastOf(t, more, d) != n {
				t.Errorf("%v and %v need other numbers of chambers than %v with %d depths", access, more, kept, d)
			}
			if cuts, ok := planned(t, kept, d); ok {
				var all [][]int
				for _, number := range numbers {
					all = append(all, cuts[number])
				}
				if e := locks.Check(access, all, d); e != api.OK {
					t.Errorf("Check(%v, %v, %d) = %d", access, all, d, e)
				}
			}
		}
	}
}

// P5.4: exchanging two depths of a chamber, or two chambers, in all keys
// changes nothing that opens.
func TestExchanges(t *testing.T) {
	r := rand.New(rand.NewSource(12))
	for _, access := range drawnPlans(13, 12) {
		for c := 1; c <= api.MaxChambers; c++ {
			d := 1 + r.Intn(api.MaxDepths)
			cuts := drawnCuts(r, len(access), c, d)
			depths, chambers := clone(cuts), clone(cuts)
			i, j, a, b := r.Intn(c), r.Intn(c), 1+r.Intn(d), 1+r.Intn(d)
			for key := range cuts {
				switch cuts[key][i] {
				case a:
					depths[key][i] = b
				case b:
					depths[key][i] = a
				}
				chambers[key][i], chambers[key][j] = cuts[key][j], cuts[key][i]
			}
			if want := said(access, cuts, d); said(access, depths, d) != want || said(access, chambers, d) != want {
				t.Errorf("%v, %v, %d: %s, with exchanges %v, %v", access, cuts, d, want, depths, chambers)
			}
		}
	}
}

// said is what the package says of these cuts, as a text.
func said(access, cuts [][]int, d int) string {
	list, e := locks.Wrong(access, cuts, d)
	text := fmt.Sprint(list, e, locks.Check(access, cuts, d))
	for lock := -1; lock <= api.MaxLocks; lock++ {
		n, e := locks.Strangers(access, cuts, d, lock)
		text += fmt.Sprint(" ", n, e)
	}
	return text
}

// P5.4: with one depth every key opens every lock that any key is meant to
// open.
func TestOneDepth(t *testing.T) {
	for _, access := range drawnPlans(14, 6) {
		var want [][2]int
		for key := range access {
			for lock, number := range access[key] {
				if number == 0 && slices.ContainsFunc(access, func(row []int) bool { return row[lock] == 1 }) {
					want = append(want, [2]int{key, lock})
				}
			}
		}
		for c := 1; c <= api.MaxChambers; c++ {
			if list, e := locks.Wrong(access, table(len(access), c, 1), 1); !slices.Equal(list, want) || e != api.OK {
				t.Errorf("Wrong of %v with one depth = %v, %d", access, list, e)
			}
		}
		fewest := 1
		if len(want) > 0 {
			fewest = 0
		}
		wantPlan(t, access, 1, fewest)
	}
}

// P5.4: the strangers of a lock are at least the different cuts of the keys
// that are meant to open it.
func TestStrangersAndKeys(t *testing.T) {
	r := rand.New(rand.NewSource(15))
	for _, access := range drawnPlans(16, 10) {
		d := 1 + r.Intn(api.MaxDepths)
		cuts, ok := planned(t, access, d)
		if !ok || r.Intn(2) == 0 {
			cuts = drawnCuts(r, len(access), 1+r.Intn(api.MaxChambers), d)
		}
		for lock := range access[0] {
			different := map[string]bool{}
			for key := range access {
				if access[key][lock] == 1 {
					different[fmt.Sprint(cuts[key])] = true
				}
			}
			if n, e := locks.Strangers(access, cuts, d, lock); n < len(different) || e != api.OK {
				t.Errorf("Strangers(%v, %v, %d, %d) = %d, %d", access, cuts, d, lock, n, e)
			}
		}
	}
}
