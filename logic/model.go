package logic

import "turndown/api"

const (
	markBits = 4
	allMarks = 1<<markBits - 1
)

// worlds are what formulas are read in: the worlds of a model, or drafts.
type worlds interface {
	// none returns no worlds.
	none() set
	// marked returns the worlds in which the atom is true.
	marked(a atom) set
	// implied returns the worlds that force an implication, given those that
	// force its left side and those that force its right side.
	implied(left, right set) set
}

// model has for each world the set of those in its list, and its marks.
type model struct {
	above []set
	marks []int
}

// toModel returns the model that m is; false: it is none.
func toModel(m api.Model) (model, bool) {
	count := len(m.Above)
	if count < 1 || count > api.MaxWorlds || len(m.Marks) != count {
		return model{}, false
	}
	above := make([]set, count)
	for world, list := range m.Above {
		row, ok := toSet(list, count)
		if !ok || !row.has(world) || m.Marks[world] < 0 || m.Marks[world] > allMarks {
			return model{}, false
		}
		above[world] = row
	}
	for world, list := range m.Above {
		for _, other := range list {
			if !above[other].isWithin(above[world]) || m.Marks[world]&^m.Marks[other] != 0 {
				return model{}, false
			}
		}
	}
	return model{above, m.Marks}, true
}

// toSet returns the numbers of the list as a set; false: they are not
// strictly ascending, or not all from 0 to size - 1.
func toSet(list []int, size int) (set, bool) {
	s := newSet(size)
	last := -1
	for _, number := range list {
		if number <= last || number >= size {
			return nil, false
		}
		s.add(number)
		last = number
	}
	return s, true
}

// lonelyWorlds returns a model with a world of each marks, whose lists
// contain only themselves: they force what they force as models of one world.
func lonelyWorlds() model {
	var m model
	for marks := range allMarks + 1 {
		alone := newSet(allMarks + 1)
		alone.add(marks)
		m.above = append(m.above, alone)
		m.marks = append(m.marks, marks)
	}
	return m
}

func (m model) none() set { return newSet(len(m.marks)) }

func (m model) marked(a atom) set {
	result := m.none()
	for world, marks := range m.marks {
		if marks>>a&1 == 1 {
			result.add(world)
		}
	}
	return result
}

func (m model) implied(left, right set) set {
	broken := left.minus(right)
	result := m.none()
	for world, above := range m.above {
		if !above.meets(broken) {
			result.add(world)
		}
	}
	return result
}
