package locks_test

import (
	"math/rand"
	"slices"

	"turndown/api"
)

// This file has slow computations, straight from the chapter's terms, which
// share no code with the package.

// twoAndMaster is the chapter's first example.
func twoAndMaster() [][]int { return [][]int{{1, 0}, {0, 1}, {1, 1}} }

// ownLocks has a lock for each key.
func ownLocks(keys int) [][]int {
	access := table(keys, keys, 0)
	for key := range keys {
		access[key][key] = 1
	}
	return access
}

// othersLocks has for each key a lock that all other keys open.
func othersLocks(keys int) [][]int {
	access := table(keys, keys, 1)
	for key := range keys {
		access[key][key] = 0
	}
	return access
}

func table(rows, columns, number int) [][]int {
	t := make([][]int, rows)
	for i := range t {
		t[i] = slices.Repeat([]int{number}, columns)
	}
	return t
}

func clone(t [][]int) [][]int {
	var result [][]int
	for _, row := range t {
		result = append(result, slices.Clone(row))
	}
	return result
}

func same(s, t [][]int) bool { return slices.EqualFunc(s, t, slices.Equal[[]int]) }

// allTables lists all tables of this size with numbers from least to most.
func allTables(rows, columns, least, most int) [][][]int {
	list := [][][]int{table(rows, columns, least)}
	for i := range rows {
		for j := range columns {
			for _, t := range slices.Clone(list) {
				for number := least + 1; number <= most; number++ {
					t = clone(t)
					t[i][j] = number
					list = append(list, t)
				}
			}
		}
	}
	return list
}

// drawnPlan returns an access plan in which each key is meant to open about
// so many tenths of the locks.
func drawnPlan(r *rand.Rand, keys, locks, tenths int) [][]int {
	access := table(keys, locks, 0)
	for key := range keys {
		for lock := range locks {
			if r.Intn(10) < tenths {
				access[key][lock] = 1
			}
		}
	}
	return access
}

// drawnPlans have all sizes.
func drawnPlans(seed int64, rounds int) [][][]int {
	r := rand.New(rand.NewSource(seed))
	var list [][][]int
	for range rounds {
		for keys := 1; keys <= api.MaxKeys; keys++ {
			for locks := 1; locks <= api.MaxLocks; locks++ {
				list = append(list, drawnPlan(r, keys, locks, r.Intn(11)))
			}
		}
	}
	return list
}

func drawnCuts(r *rand.Rand, keys, chambers, d int) [][]int {
	cuts := table(keys, chambers, 1)
	for key := range keys {
		for chamber := range chambers {
			cuts[key][chamber] += r.Intn(d)
		}
	}
	return cuts
}

// opens reports whether a key of these depths opens the lock.
func opens(access, cuts [][]int, depths []int, lock int) bool {
	for chamber, depth := range depths {
		isPin := false
		for key := range access {
			isPin = isPin || access[key][lock] == 1 && cuts[key][chamber] == depth
		}
		if !isPin {
			return false
		}
	}
	return true
}

func wrongPairs(access, cuts [][]int) [][2]int {
	var list [][2]int
	for key := range access {
		for lock, number := range access[key] {
			if number == 0 && opens(access, cuts, cuts[key], lock) {
				list = append(list, [2]int{key, lock})
			}
		}
	}
	return list
}

// strangers tries all keys.
func strangers(access, cuts [][]int, d, lock int) int {
	number := 0
	for _, key := range allTables(1, len(cuts[0]), 1, d) {
		if opens(access, cuts, key[0], lock) {
			number++
		}
	}
	return number
}

// possible tries all cuts.
func possible(access [][]int, c, d int) bool {
	for _, cuts := range allTables(len(access), c, 1, d) {
		if len(wrongPairs(access, cuts)) == 0 {
			return true
		}
	}
	return false
}

// least goes from the sets of pairs that chambers leave open to those that a
// further chamber leaves.
func least(access [][]int, d int) int {
	type open [api.MaxKeys][api.MaxLocks]bool
	left := map[open]bool{}
	for _, depths := range allTables(len(access), 1, 1, d) {
		var o open
		for _, p := range wrongPairs(access, depths) {
			o[p[0]][p[1]] = true
		}
		left[o] = true
	}
	one, reached := left, left
	for c := 1; c <= api.MaxChambers; c++ {
		if reached[open{}] {
			return c
		}
		next := map[open]bool{}
		for o := range reached {
			for p := range one {
				both := o
				for key := range p {
					for lock := range p[key] {
						both[key][lock] = o[key][lock] && p[key][lock]
					}
				}
				next[both] = true
			}
		}
		reached = next
	}
	return 0
}
