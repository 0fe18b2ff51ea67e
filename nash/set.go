package nash

import (
	"iter"
	"math/bits"

	"turndown/api"
)

// A set of acts has the bit i for the act i.
type set uint

// upTo returns the set of all these acts.
func upTo(acts int) set { return 1<<acts - 1 }

func (s set) has(act int) bool { return s>>act&1 == 1 }

func (s set) without(act int) set { return s &^ (1 << act) }

func (s set) size() int { return bits.OnesCount(uint(s)) }

func (s set) list() []int {
	var acts []int
	for act := range api.MaxActs {
		if s.has(act) {
			acts = append(acts, act)
		}
	}
	return acts
}

// sets visits every set of some of these acts, but for the empty one.
func sets(acts int) iter.Seq[set] {
	return func(yield func(set) bool) {
		for s := set(1); s <= upTo(acts); s++ {
			if !yield(s) {
				return
			}
		}
	}
}
