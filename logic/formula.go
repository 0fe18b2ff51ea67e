package logic

import "turndown/api"

// formula is a node of a formula: falsum, an atom, or two formulas with a
// sign between them.
type formula interface {
	// forced returns those of the worlds that force the formula.
	forced(in worlds) set
}

type falsum struct{}

// atom is the number of a letter: p, q, r and s are 0 to 3.
type atom int

type conjunction struct{ left, right formula }

type disjunction struct{ left, right formula }

type implication struct{ left, right formula }

func (falsum) forced(in worlds) set { return in.none() }

func (a atom) forced(in worlds) set { return in.marked(a) }

func (c conjunction) forced(in worlds) set {
	return c.left.forced(in).meet(c.right.forced(in))
}

func (d disjunction) forced(in worlds) set {
	return d.left.forced(in).join(d.right.forced(in))
}

func (i implication) forced(in worlds) set {
	return in.implied(i.left.forced(in), i.right.forced(in))
}

// wrongFormula is what a reader panics with.
const wrongFormula = "not a formula"

// reader reads a formula from a text, and panics where there is none.
type reader struct {
	text      string
	at, parts int
}

// parse returns the formula that the text is; false: it is none.
func parse(text string) (f formula, ok bool) {
	defer func() {
		if recover() != nil {
			f, ok = nil, false
		}
	}()
	r := reader{text: text}
	f = r.formula()
	if r.at < len(text) {
		panic(wrongFormula)
	}
	return f, true
}

// next returns the next byte.
func (r *reader) next() byte {
	if r.at == len(r.text) {
		panic(wrongFormula)
	}
	c := r.text[r.at]
	r.at++
	return c
}

// formula reads one formula.
func (r *reader) formula() formula {
	// Each pair of brackets has one sign. To count it here, before what is
	// between the brackets, bounds how deep they are nested.
	r.parts++
	if r.parts > api.MaxParts {
		panic(wrongFormula)
	}
	switch c := r.next(); c {
	case 'f':
		return falsum{}
	case 'p', 'q', 'r', 's':
		return atom(c - 'p')
	case '(':
		return r.pair()
	}
	panic(wrongFormula)
}

// pair reads two formulas with a sign between them, and the bracket behind
// them.
func (r *reader) pair() formula {
	left := r.formula()
	sign := r.next()
	right := r.formula()
	if r.next() != ')' {
		panic(wrongFormula)
	}
	switch sign {
	case '&':
		return conjunction{left, right}
	case '|':
		return disjunction{left, right}
	case '>':
		return implication{left, right}
	}
	panic(wrongFormula)
}
