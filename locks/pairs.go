package locks

import "turndown/api"

// pairs is a set of pairs of a key and a lock. Its bits stand for them in
// ascending order of the keys, and then of the locks.
type pairs uint64

// pair returns the set of just this pair.
func pair(key, lock int) pairs { return 1 << (key*api.MaxLocks + lock) }

func (p pairs) has(key, lock int) bool { return p&pair(key, lock) != 0 }

// first returns the set of just its first pair; an empty set has none.
func (p pairs) first() pairs { return p & -p }

func (p pairs) list() [][2]int {
	var list [][2]int
	for key := range api.MaxKeys {
		for lock := range api.MaxLocks {
			if p.has(key, lock) {
				list = append(list, [2]int{key, lock})
			}
		}
	}
	return list
}
