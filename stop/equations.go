package stop

import (
	"turndown/api"
	"turndown/frac"
)

// Equations have a row for each state: the factors of the values of all
// states, and last what their sum must be.
type equations [api.MaxStates][api.MaxStates + 1]int

const last = api.MaxStates // the column behind the factors

// equationsOf returns those of the values of a rule: where it stops, the value
// is Pay, and elsewhere four times the value is the sum of the numbers times
// the values of the next states, minus four times Cost. Behind the states of
// the chain the values are 0.
func equationsOf(c api.Chain, rule stops) equations {
	var e equations
	for s := range e {
		e[s][s] = 1
	}
	for s, next := range c.Next {
		if rule[s] {
			e[s][last] = c.Pay[s]
			continue
		}
		e[s][s] = full
		for t, number := range next {
			e[s][t] -= number
		}
		e[s][last] = -full * c.Cost[s]
	}
	return e
}

// solve returns the values of a sound rule. It changes only its own copy of
// the equations. Each step divides by the factor on the diagonal of the step
// before, which leaves no remainder, as all entries are then determinants of
// the given ones; so they stay small. The one on the diagonal is always
// greater than 0: in no row is the sum of the factors negative, nor a factor
// beside the diagonal positive, and from each row, as the rule is sound, a
// way leads to one with a positive sum.
func (e equations) solve() values {
	before := 1
	for k := range e {
		row := e[k]
		for i := range e {
			if i == k {
				continue
			}
			factor := e[i][k]
			for j := range row {
				e[i][j] = (row[k]*e[i][j] - factor*row[j]) / before
			}
		}
		before = row[k]
	}
	var v values
	for s := range v {
		v[s] = frac.New(e[s][last], before)
	}
	return v
}
