package stop

import (
	"iter"

	"turndown/api"
	"turndown/frac"
)

const (
	full   = 4       // the numbers of a state that never ends add up to this
	maxNum = 1 << 40 // the absolute value of a numerator that Check accepts
	maxDen = 1 << 20 // a denominator that Check accepts
)

// isChain tests the number of states first, so that lists of any length are
// rejected without being read.
func isChain(c api.Chain) bool {
	count := len(c.Next)
	if count < 1 || count > api.MaxStates || len(c.Pay) != count || len(c.Cost) != count {
		return false
	}
	for s, next := range c.Next {
		if !isNext(next, count) {
			return false
		}
		if c.Pay[s] < 0 || c.Pay[s] > api.MaxGain || c.Cost[s] < 0 || c.Cost[s] > api.MaxCost {
			return false
		}
	}
	return true
}

func isNext(next []int, count int) bool {
	if len(next) != count {
		return false
	}
	for _, number := range next {
		// A greater one could make the sum wrap around.
		if number < 0 || number > full {
			return false
		}
	}
	return sum(next) <= full
}

func sum(numbers []int) int {
	total := 0
	for _, number := range numbers {
		total += number
	}
	return total
}

// Stops say of each state whether a rule stops there.
type stops [api.MaxStates]bool

// toStops also reports whether the list is a rule.
func toStops(rule []int, count int) (stops, bool) {
	var marks stops
	least := 0
	for _, s := range rule {
		if s < least || s >= count {
			return stops{}, false
		}
		marks[s] = true
		least = s + 1
	}
	return marks, true
}

// allRules visits every rule for count states.
func allRules(count int) iter.Seq[stops] {
	return func(yield func(stops) bool) {
		for bits := range 1 << count {
			var rule stops
			for s := range count {
				rule[s] = bits>>s&1 == 1
			}
			if !yield(rule) {
				return
			}
		}
	}
}

// isSound reports whether every state has a way to a state of the rule, or to
// an end: as there are finitely many states, the process then comes there
// with the probability 1.
func isSound(c api.Chain, rule stops) bool {
	done := rule
	for s, next := range c.Next {
		done[s] = done[s] || sum(next) < full
	}
	for range c.Next { // a shortest way has fewer steps than there are states
		for s, next := range c.Next {
			for t, number := range next {
				done[s] = done[s] || number > 0 && done[t]
			}
		}
	}
	for s := range c.Next {
		if !done[s] {
			return false
		}
	}
	return true
}

// Values have the value of each state at its number, and 0 behind the last
// one.
type values [api.MaxStates]api.Frac

func (v values) list(count int) []api.Frac {
	result := make([]api.Frac, count)
	copy(result, v[:])
	return result
}

// areValues reports whether the list can be one of the values of a chain.
func areValues(list []api.Frac, count int) bool {
	if len(list) != count {
		return false
	}
	for _, f := range list {
		if f.Num < -maxNum || f.Num > maxNum || f.Den > maxDen || !frac.IsValid(f) {
			return false
		}
	}
	return true
}

// bestValues returns the greatest values that sound rules have.
func bestValues(c api.Chain) values {
	var best values
	for s, pay := range c.Pay {
		best[s] = frac.New(pay, 1) // the rule of all states is sound
	}
	for rule := range allRules(len(c.Next)) {
		if !isSound(c, rule) {
			continue
		}
		here := equationsOf(c, rule).solve()
		for s := range c.Next {
			if isLess(best[s], here[s]) {
				best[s] = here[s]
			}
		}
	}
	return best
}

// isLess compares values of sound rules. Their numerators are within maxNum,
// and their denominators within maxDen, so that the products are ints.
func isLess(a, b api.Frac) bool {
	return a.Num*b.Den < b.Num*a.Den
}
