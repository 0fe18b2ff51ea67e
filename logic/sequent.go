package logic

import (
	"slices"

	"turndown/api"
)

// The numbers of the rules.
const (
	ruleAtom = iota
	ruleFalsum
	ruleBoth
	ruleLeft
	ruleRight
	ruleAssume
	ruleSplit
	ruleCases
	ruleApply
	ruleConjunction
	ruleDisjunction
	ruleImplication
)

// sequent has premises and a goal. No list of premises is ever changed, so
// that sequents can share them.
type sequent struct {
	premises []formula
	goal     formula
}

// after returns the sequents that the move leads to; false: the sequent does
// not allow it.
func (s sequent) after(m api.Move) ([]sequent, bool) {
	if m.Rule >= ruleBoth && m.Rule <= ruleAssume {
		if m.At != 0 {
			return nil, false
		}
		return s.afterGoal(m.Rule)
	}
	if m.At < 0 || m.At >= len(s.premises) {
		return nil, false
	}
	switch p := s.premises[m.At].(type) {
	case atom:
		goal, ok := s.goal.(atom)
		return nil, m.Rule == ruleAtom && ok && goal == p
	case falsum:
		return nil, m.Rule == ruleFalsum
	case conjunction:
		if m.Rule == ruleSplit {
			return []sequent{s.replace(m.At, p.left, p.right)}, true
		}
	case disjunction:
		if m.Rule == ruleCases {
			return []sequent{s.replace(m.At, p.left), s.replace(m.At, p.right)}, true
		}
	case implication:
		return s.afterImplication(m, p)
	}
	return nil, false
}

// afterGoal is after for the rules that look at the goal.
func (s sequent) afterGoal(rule int) ([]sequent, bool) {
	switch g := s.goal.(type) {
	case conjunction:
		if rule == ruleBoth {
			return []sequent{{s.premises, g.left}, {s.premises, g.right}}, true
		}
	case disjunction:
		switch rule {
		case ruleLeft:
			return []sequent{{s.premises, g.left}}, true
		case ruleRight:
			return []sequent{{s.premises, g.right}}, true
		}
	case implication:
		if rule == ruleAssume {
			premises := append(slices.Clone(s.premises), g.left)
			return []sequent{{premises, g.right}}, true
		}
	}
	return nil, false
}

// afterImplication is after for the rules whose premise is an implication,
// here p: the form of its left side tells the only rule.
func (s sequent) afterImplication(m api.Move, p implication) ([]sequent, bool) {
	switch a := p.left.(type) {
	case atom:
		if m.Rule == ruleApply && s.assumes(a) {
			return []sequent{s.replace(m.At, p.right)}, true
		}
	case conjunction:
		if m.Rule == ruleConjunction {
			return []sequent{s.replace(m.At, implication{a.left, implication{a.right, p.right}})}, true
		}
	case disjunction:
		if m.Rule == ruleDisjunction {
			return []sequent{s.replace(m.At, implication{a.left, p.right}, implication{a.right, p.right})}, true
		}
	case implication:
		if m.Rule == ruleImplication {
			shown := s.replace(m.At, implication{a.right, p.right})
			shown.goal = a
			return []sequent{shown, s.replace(m.At, p.right)}, true
		}
	}
	return nil, false
}

// replace returns the sequent without the premise at a position, but with
// further ones.
func (s sequent) replace(at int, further ...formula) sequent {
	premises := slices.Concat(s.premises[:at], s.premises[at+1:], further)
	return sequent{premises, s.goal}
}

// assumes reports whether the atom is a premise.
func (s sequent) assumes(a atom) bool {
	return slices.ContainsFunc(s.premises, func(p formula) bool {
		other, ok := p.(atom)
		return ok && other == a
	})
}

// isDerivedBy reports whether the moves are a derivation of the sequent, of at
// most MaxMoves moves.
func (s sequent) isDerivedBy(moves []api.Move) bool {
	if len(moves) > api.MaxMoves {
		return false
	}
	open := []sequent{s} // the one to be derived next is the last one
	for _, move := range moves {
		if len(open) == 0 {
			return false
		}
		last := len(open) - 1
		next, ok := open[last].after(move)
		if !ok {
			return false
		}
		slices.Reverse(next)
		open = append(open[:last], next...)
	}
	return len(open) == 0
}
