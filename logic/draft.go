package logic

import (
	"slices"

	"turndown/api"
)

const (
	// A formula has one sign less than falsums and atoms.
	maxImplications = (api.MaxParts - 1) / 2
	draftCount      = 1 << (markBits + maxImplications)
)

// drafts are worlds that a model may have, in which a formula has been read.
// The number of a draft says what it is to force: its lowest bits are its
// marks, and each implication in the formula has a further bit. One draft is
// above another one if it has all bits of that one.
//
// A draft is sound if each implication that it lacks is broken in a sound
// draft above it, and no implication that it has is broken in itself. So the
// sound drafts are a model, and each world of any model forces what one of
// them forces: if a model refutes the formula, then a sound draft does.
type drafts struct {
	used   int   // the bits that belong to an atom or an implication of the formula
	broken []set // for each implication, the drafts that force its left side but not its right side
	sound  []int // the sound drafts that have been found, in descending order
}

// refute returns a model whose world 0 does not force the formula; false:
// there is none.
func refute(f formula) (api.Model, bool) {
	var d drafts
	forced := f.forced(&d)
	// What is above a draft has a greater number, and comes before it.
	for draft := d.used; draft >= 0; draft-- {
		if !d.isSound(draft) {
			continue
		}
		d.sound = append(d.sound, draft)
		if !forced.has(draft) {
			return d.model(draft), true
		}
	}
	return api.Model{}, false
}

func (d *drafts) none() set { return newSet(draftCount) }

func (d *drafts) marked(a atom) set { return d.withBit(int(a)) }

// implied gives the implication the next bit.
func (d *drafts) implied(left, right set) set {
	bit := markBits + len(d.broken)
	d.broken = append(d.broken, left.minus(right))
	return d.withBit(bit)
}

// withBit returns the drafts that have the bit, which becomes a used one.
func (d *drafts) withBit(bit int) set {
	d.used |= 1 << bit
	result := d.none()
	for draft := range draftCount {
		if draft>>bit&1 == 1 {
			result.add(draft)
		}
	}
	return result
}

// lacks reports whether the draft is not to force the implication of that
// position.
func lacks(draft, position int) bool {
	return draft>>(markBits+position)&1 == 0
}

// isSound reports whether the draft is sound, if all sound ones with greater
// numbers have been found.
func (d *drafts) isSound(draft int) bool {
	if draft&^d.used != 0 {
		return false
	}
	for position, broken := range d.broken {
		here := broken.has(draft)
		if !lacks(draft, position) {
			if here {
				return false
			}
		} else if !here && d.witness(draft, position) < 0 {
			return false
		}
	}
	return true
}

// witness returns the first sound draft above the given one in which the
// implication of that position is broken, or -1.
func (d *drafts) witness(draft, position int) int {
	for _, other := range d.sound {
		if other&draft == draft && d.broken[position].has(other) {
			return other
		}
	}
	return -1
}

// model returns a model of sound drafts whose world 0 is the given one: they
// have a witness of each implication that one of them lacks.
func (d *drafts) model(first int) api.Model {
	chosen := []int{first}
	for next := 0; next < len(chosen); next++ {
		for position := range d.broken {
			if !lacks(chosen[next], position) {
				continue
			}
			if other := d.witness(chosen[next], position); !slices.Contains(chosen, other) {
				chosen = append(chosen, other)
			}
		}
	}
	var m api.Model
	for _, draft := range chosen {
		var above []int
		for world, other := range chosen {
			if other&draft == draft {
				above = append(above, world)
			}
		}
		m.Above = append(m.Above, above)
		m.Marks = append(m.Marks, draft&allMarks)
	}
	return m
}
