package nash

import "turndown/api"

// equilibrium searches sets of rows and of columns, equally many, for mixes
// that choose nothing else, and against which these rows, or these columns,
// gain the same. There always are two such mixes that are an equilibrium,
// each the only one for its sets: the method of Lemke and Howson, with the
// rule that keeps it from running in circles, ends with them, also where
// several acts are as good as each other.
func (g game) equilibrium() (mix, mix) {
	var x, y mix
search:
	for rows := range sets(g[0].acts) {
		for columns := range sets(g[1].acts) {
			if rows.size() != columns.size() {
				continue
			}
			var xOK, yOK bool
			x, xOK = equationsOf(g[1], columns, rows).solve()
			y, yOK = equationsOf(g[0], rows, columns).solve()
			if xOK && yOK && g.isEquilibrium(x, y) {
				break search
			}
		}
	}
	return x, y
}

const (
	unknowns = api.MaxActs + 1 // the probabilities of the acts, and a gain
	level    = api.MaxActs     // the column of the factors of the gain
	last     = unknowns        // the column behind the factors
)

// Equations have in each row the factors of the unknowns, and last what their
// sum must be.
type equations [unknowns][unknowns + 1]int

// equationsOf returns those of a mix of the other side, which chooses only
// these others, and against which each one of these own acts gains the same.
// There must be as many others as own acts.
func equationsOf(s side, own, others set) equations {
	var e equations
	at := 0
	for act := range api.MaxActs {
		if !others.has(act) {
			e[at][act] = 1 // its probability is 0
			at++
		}
	}
	for act, row := range s.pay {
		if own.has(act) {
			copy(e[at][:], row[:])
			e[at][level] = -1
			at++
		}
	}
	for act := range api.MaxActs {
		e[at][act] = 1
	}
	e[at][last] = 1 // the probabilities add up to 1
	return e
}

// solve also reports whether there is just one solution, and it is a mix. It
// changes only its own copy of the equations. Each step divides by the factor
// on the diagonal of the step before, which leaves no remainder, as all
// entries are then determinants of the given ones. No determinant is more
// than the product of the lengths of its rows, which here is less than
// maxWhole: so the products are ints, and Check accepts the mix.
func (e equations) solve() (mix, bool) {
	before := 1
	for k := range e {
		chosen := k
		for chosen < unknowns && e[chosen][k] == 0 {
			chosen++
		}
		if chosen == unknowns {
			return mix{}, false
		}
		e[k], e[chosen] = e[chosen], e[k]
		row := e[k]
		for i := range e {
			if i == k {
				continue
			}
			factor := e[i][k]
			for j := range row {
				e[i][j] = (row[k]*e[i][j] - factor*row[j]) / before
			}
		}
		before = row[k]
	}
	return e.solved(before)
}

// solved returns what the last step has left, where every factor on the
// diagonal is the same.
func (e equations) solved(factor int) (mix, bool) {
	sign := 1
	if factor < 0 {
		sign = -1
	}
	m := mix{whole: sign * factor}
	for act := range m.weights {
		m.weights[act] = sign * e[act][last]
		if m.weights[act] < 0 {
			return mix{}, false
		}
	}
	return m, true
}
