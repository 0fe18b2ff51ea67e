package logic_test

import (
	"math/rand"
	"slices"
	"strings"
	"testing"

	"turndown/api"
	"turndown/logic"
)

// The slow computations below work on the texts of formulas.

// isFormula replaces what is between innermost brackets, until nothing
// changes.
func isFormula(text string) bool {
	if parts(text) > 12 {
		return false
	}
	if strings.ContainsFunc(text, func(c rune) bool { return !strings.ContainsRune("fpqrs&|>()", c) }) {
		return false
	}
	rest := strings.NewReplacer("p", "f", "q", "f", "r", "f", "s", "f", "|", "&", ">", "&").Replace(text)
	for strings.Contains(rest, "(f&f)") {
		rest = strings.ReplaceAll(rest, "(f&f)", "f")
	}
	return rest == "f"
}

// parts counts the parts of a formula.
func parts(text string) int {
	return len(text) - strings.Count(text, "(") - strings.Count(text, ")")
}

// split returns the outermost sign of a formula, and what is before and
// behind it; the sign is 0 if there is none.
func split(text string) (byte, string, string) {
	depth := 0
	for i := range len(text) {
		switch text[i] {
		case '(':
			depth++
		case ')':
			depth--
		case '&', '|', '>':
			if depth == 1 {
				return text[i], text[1:i], text[i+1 : len(text)-1]
			}
		}
	}
	return 0, "", ""
}

// forcedAt reports whether a world of the model forces the formula, word by
// word as the chapter says.
func forcedAt(m api.Model, world int, text string) bool {
	sign, left, right := split(text)
	switch sign {
	case '&':
		return forcedAt(m, world, left) && forcedAt(m, world, right)
	case '|':
		return forcedAt(m, world, left) || forcedAt(m, world, right)
	case '>':
		for _, above := range m.Above[world] {
			if forcedAt(m, above, left) && !forcedAt(m, above, right) {
				return false
			}
		}
		return true
	}
	bit := strings.Index("pqrs", text)
	return bit >= 0 && m.Marks[world]>>bit%2 == 1
}

// forcing returns the worlds that force the formula.
func forcing(m api.Model, text string) []int {
	var list []int
	for world := range m.Above {
		if forcedAt(m, world, text) {
			list = append(list, world)
		}
	}
	return list
}

// isModel reports whether m is a model of few worlds.
func isModel(m api.Model) bool {
	if len(m.Above) == 0 || len(m.Above) != len(m.Marks) {
		return false
	}
	for world, list := range m.Above {
		if !slices.Contains(list, world) || m.Marks[world] < 0 || m.Marks[world] > 15 {
			return false
		}
		for i, other := range list {
			if other < 0 || other >= len(m.Above) || i > 0 && list[i-1] >= other {
				return false
			}
		}
	}
	for world, list := range m.Above {
		for _, other := range list {
			if m.Marks[world]|m.Marks[other] != m.Marks[other] {
				return false
			}
			for _, third := range m.Above[other] {
				if !slices.Contains(list, third) {
					return false
				}
			}
		}
	}
	return true
}

// goal is a sequent.
type goal struct {
	premises []string
	text     string
}

// with returns a sequent without the premise at a position, with further
// ones, for the text as the goal.
func (g goal) with(at int, text string, further ...string) goal {
	var premises []string
	for i, p := range g.premises {
		if i != at {
			premises = append(premises, p)
		}
	}
	return goal{append(premises, further...), text}
}

// leadsTo returns what the move leads to, line by line as the chapter's table
// says.
func (g goal) leadsTo(m api.Move) ([]goal, bool) {
	sign, a, b := split(g.text)
	if m.Rule >= 2 && m.Rule <= 5 && (m.At != 0 || sign != "&||>"[m.Rule-2]) {
		return nil, false
	}
	switch m.Rule {
	case 2:
		return []goal{g.with(-1, a), g.with(-1, b)}, true
	case 3:
		return []goal{g.with(-1, a)}, true
	case 4:
		return []goal{g.with(-1, b)}, true
	case 5:
		return []goal{g.with(-1, b, a)}, true
	}
	if m.At < 0 || m.At >= len(g.premises) {
		return nil, false
	}
	p := g.premises[m.At]
	sign, a, b = split(p)
	first, c, d := split(a)
	form := string([]byte{sign, first})
	switch {
	case m.Rule == 0:
		return nil, p == g.text && strings.Contains("pqrs", p)
	case m.Rule == 1:
		return nil, p == "f"
	case m.Rule == 6 && sign == '&':
		return []goal{g.with(m.At, g.text, a, b)}, true
	case m.Rule == 7 && sign == '|':
		return []goal{g.with(m.At, g.text, a), g.with(m.At, g.text, b)}, true
	case m.Rule == 8 && form == ">\x00":
		return []goal{g.with(m.At, g.text, b)}, a != "f" && slices.Contains(g.premises, a)
	case m.Rule == 9 && form == ">&":
		return []goal{g.with(m.At, g.text, "("+c+">("+d+">"+b+"))")}, true
	case m.Rule == 10 && form == ">|":
		return []goal{g.with(m.At, g.text, "("+c+">"+b+")", "("+d+">"+b+")")}, true
	case m.Rule == 11 && form == ">>":
		return []goal{g.with(m.At, a, "("+d+">"+b+")"), g.with(m.At, g.text, b)}, true
	}
	return nil, false
}

// read reads a derivation of the sequent from the beginning of the moves, and
// returns those behind it.
func (g goal) read(moves []api.Move) ([]api.Move, bool) {
	if len(moves) == 0 {
		return nil, false
	}
	next, ok := g.leadsTo(moves[0])
	rest := moves[1:]
	for _, n := range next {
		if ok {
			rest, ok = n.read(rest)
		}
	}
	return rest, ok
}

// isCorrect reports whether the ruling, with few worlds and moves, is correct
// for the formula.
func isCorrect(text string, r api.Ruling) bool {
	if !r.Valid {
		return len(r.Moves) == 0 && isModel(r.Model) && !forcedAt(r.Model, 0, text)
	}
	rest, ok := goal{nil, text}.read(r.Moves)
	return ok && len(rest) == 0 && len(r.Model.Above) == 0 && len(r.Model.Marks) == 0
}

// isClassical reports whether a formula is true for all values of its atoms.
func isClassical(text string) bool {
	for marks := range 16 {
		if !forcedAt(api.Model{Above: [][]int{{0}}, Marks: []int{marks}}, 0, text) {
			return false
		}
	}
	return true
}

// formulas returns all formulas in which so many falsums and atoms occur, of
// those letters.
func formulas(leaves int, letters string) []string {
	if leaves == 1 {
		return strings.Split(letters, "")
	}
	var list []string
	for first := 1; first < leaves; first++ {
		for _, left := range formulas(first, letters) {
			for _, right := range formulas(leaves-first, letters) {
				for _, sign := range []string{"&", "|", ">"} {
					list = append(list, "("+left+sign+right+")")
				}
			}
		}
	}
	return list
}

// drawnFormula draws a formula with so many falsums and atoms.
func drawnFormula(r *rand.Rand, leaves int, letters, signs string) string {
	if leaves == 1 {
		return string(letters[r.Intn(len(letters))])
	}
	first := 1 + r.Intn(leaves-1)
	left := drawnFormula(r, first, letters, signs)
	sign := string(signs[r.Intn(len(signs))])
	return "(" + left + sign + drawnFormula(r, leaves-first, letters, signs) + ")"
}

// drawnFormulas draws formulas of at most so many falsums and atoms: of all
// signs, and with many implications and few letters, of which more are valid.
func drawnFormulas(seed int64, count, leaves int) []string {
	r := rand.New(rand.NewSource(seed))
	var list []string
	for i := range count {
		n := 1 + r.Intn(leaves)
		list = append(list, drawnFormula(r, n, []string{"fpqrs", "fpq", "pq", "pp"}[i%4], []string{"&|>", ">", "|>>"}[i%3]))
	}
	return list
}

// drawnModel draws a model of so many worlds, in which worlds may be above
// each other.
func drawnModel(r *rand.Rand, count int) api.Model {
	above := make([][]bool, count)
	for i := range above {
		above[i] = make([]bool, count)
		above[i][i] = true
		for range r.Intn(3) {
			above[i][r.Intn(count)] = true
		}
	}
	m := api.Model{Above: make([][]int, count), Marks: make([]int, count)}
	for by := range count {
		for i := range count {
			for j := range count {
				above[i][j] = above[i][j] || above[i][by] && above[by][j]
			}
		}
	}
	for i := range count {
		mark := r.Intn(16) & r.Intn(16)
		for j := range count {
			if above[i][j] {
				m.Above[i] = append(m.Above[i], j)
				m.Marks[j] |= mark
			}
		}
	}
	return m
}

// smallModels returns all models of one world, and all of two of which world
// 1 is above world 0, or is not, or each is above the other one.
func smallModels() []api.Model {
	var list []api.Model
	for marks := range 16 {
		list = append(list, api.Model{Above: [][]int{{0}}, Marks: []int{marks}})
		for other := range 16 {
			for _, above := range [][][]int{{{0, 1}, {1}}, {{0}, {1}}, {{0, 1}, {0, 1}}} {
				m := api.Model{Above: above, Marks: []int{marks, other}}
				if isModel(m) {
					list = append(list, m)
				}
			}
		}
	}
	return list
}

// decide returns the ruling for a formula.
func decide(t *testing.T, text string) api.Ruling {
	t.Helper()
	r, e := logic.Decide(text)
	if e != api.OK {
		t.Errorf("Decide(%s): %d", text, e)
	}
	return r
}

// cloneRuling returns a ruling with new memory.
func cloneRuling(r api.Ruling) api.Ruling {
	r.Moves, r.Model = slices.Clone(r.Moves), cloneModel(r.Model)
	return r
}

func cloneModel(m api.Model) api.Model {
	above := slices.Clone(m.Above)
	for i := range above {
		above[i] = slices.Clone(above[i])
	}
	return api.Model{Above: above, Marks: slices.Clone(m.Marks)}
}

func sameModel(m, n api.Model) bool {
	return slices.EqualFunc(m.Above, n.Above, slices.Equal[[]int]) && slices.Equal(m.Marks, n.Marks)
}

func sameRuling(r, s api.Ruling) bool {
	return r.Valid == s.Valid && slices.Equal(r.Moves, s.Moves) && sameModel(r.Model, s.Model)
}
