package logic

import "turndown/api"

// derive returns the given moves followed by a derivation of the sequent;
// false: there is no derivation.
func (s sequent) derive(moves []api.Move) ([]api.Move, bool) {
	// If a sequent that can be derived allows one of these rules, then what it
	// leads to can be derived, too: no other move has to be tried.
	safe := [...]int{ruleAtom, ruleFalsum, ruleBoth, ruleAssume, ruleSplit, ruleApply, ruleConjunction, ruleDisjunction, ruleCases}
	for _, rule := range safe {
		for at := range s.places() {
			if next, ok := s.after(api.Move{Rule: rule, At: at}); ok {
				return deriveAll(next, append(moves, api.Move{Rule: rule, At: at}))
			}
		}
	}
	for _, rule := range [...]int{ruleLeft, ruleRight, ruleImplication} {
		for at := range s.places() {
			next, ok := s.after(api.Move{Rule: rule, At: at})
			if !ok {
				continue
			}
			if longer, ok := deriveAll(next, append(moves, api.Move{Rule: rule, At: at})); ok {
				return longer, true
			}
		}
	}
	return nil, false
}

// places returns how many positions a move can have.
func (s sequent) places() int { return max(1, len(s.premises)) }

// deriveAll returns the given moves followed by derivations of the sequents,
// one after the other; false: one has none.
func deriveAll(list []sequent, moves []api.Move) ([]api.Move, bool) {
	for _, s := range list {
		longer, ok := s.derive(moves)
		if !ok {
			return nil, false
		}
		moves = longer
	}
	return moves, true
}
