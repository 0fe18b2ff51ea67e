package logic

// wordBits is how many elements a word of a set stands for.
const wordBits = 64

// set is a set of numbers from 0, as the bits of its words. Sets that are
// combined have equally many words.
type set []uint64

// newSet returns an empty set for the numbers below size.
func newSet(size int) set {
	return make(set, (size+wordBits-1)/wordBits)
}

func (s set) add(number int) { s[number/wordBits] |= 1 << (number % wordBits) }

func (s set) has(number int) bool {
	return s[number/wordBits]>>(number%wordBits)&1 == 1
}

// meet returns what is in both sets.
func (s set) meet(t set) set {
	result := make(set, len(s))
	for i := range s {
		result[i] = s[i] & t[i]
	}
	return result
}

// join returns what is in one of the sets.
func (s set) join(t set) set {
	result := make(set, len(s))
	for i := range s {
		result[i] = s[i] | t[i]
	}
	return result
}

// minus returns what is in s and not in t.
func (s set) minus(t set) set {
	result := make(set, len(s))
	for i := range s {
		result[i] = s[i] &^ t[i]
	}
	return result
}

// meets reports whether something is in both sets.
func (s set) meets(t set) bool {
	for i := range s {
		if s[i]&t[i] != 0 {
			return true
		}
	}
	return false
}

// isWithin reports whether all that is in s is in t.
func (s set) isWithin(t set) bool {
	for i := range s {
		if s[i]&^t[i] != 0 {
			return false
		}
	}
	return true
}
