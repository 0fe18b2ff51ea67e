package logic_test

import (
	"math/rand"
	"slices"
	"testing"

	"turndown/api"
	"turndown/logic"
)

// wantRuling checks that Decide's ruling is correct, by Check and by the
// reference, and returns whether the formula is valid.
func wantRuling(t *testing.T, text string) bool {
	t.Helper()
	r := decide(t, text)
	if !isCorrect(text, r) {
		t.Errorf("Decide(%s) = %v: not correct", text, r)
	}
	if e := logic.Check(text, r); e != api.OK {
		t.Errorf("Check(%s, %v) = %d", text, r, e)
	}
	return r.Valid
}

// P4.1: the chapter's examples, and formulas of which it is well known whether
// they are valid.
func TestKnownFormulas(t *testing.T) {
	valid := []string{
		"(p>p)", "(((p|(p>f))>f)>f)", "(f>p)", "(f>f)", "(p>(q>p))",
		"((p>(p>q))>(p>q))", "((p>(q>r))>(q>(p>r)))", "((p&q)>(q&p))", "((p|q)>(q|p))",
		"(p>((p>f)>f))", "((((p>f)>f)>f)>(p>f))", "((p>q)>((q>f)>(p>f)))",
		"(((p>f)|q)>(p>q))", "(((p|q)>f)>(p>f))", "(((p|q)>f)>(q>f))", "((p>f)>((p&q)>f))",
		"((p&(q|r))>((p&q)|r))", "(((((p>q)>p)>p)>q)>q)",
		"(((p|q)>r)>(q>r))", "((p&(p>f))>f)", "((p|f)>p)", "(((f>f)>p)>p)",
		"(((p>(p|q))>(q|q))>q)", "((((p>q)>p)>f)>(p>f))",
	}
	for _, text := range valid {
		if !wantRuling(t, text) {
			t.Errorf("%s is said not to be valid", text)
		}
	}
	notValid := []string{
		"f", "p", "s", "(p|(p>f))", "(((p>f)>f)>p)", "(((p>q)>p)>p)", "((p>q)|(q>p))",
		"(((p>f)>(q>f))>(q>p))", "((p>q)>((p>f)|q))", "(((p>f)>p)>p)",
		"((p>f)|((p>f)>f))", "((p>(q|r))>((p>q)|r))", "(p&(p>f))", "(p>q)",
		"((f>f)>f)", "((p>f)>p)", "((f>p)>p)",
	}
	for _, text := range notValid {
		if wantRuling(t, text) {
			t.Errorf("%s is said to be valid", text)
		}
	}
}

// P4.1: all formulas with few falsums and atoms.
func TestAllSmallFormulas(t *testing.T) {
	counts := map[int]int{}
	for leaves, letters := range map[int]string{1: "fpqrs", 2: "fpqrs", 3: "fpqrs", 4: "fpq"} {
		for _, text := range formulas(leaves, letters) {
			if wantRuling(t, text) {
				counts[leaves]++
			}
		}
	}
	if counts[1] != 0 || counts[2] != 9 {
		t.Errorf("so many formulas are said to be valid: %v", counts)
	}
}

// P4.1: formulas of all sizes, up to the greatest one.
func TestDrawnFormulas(t *testing.T) {
	valid := 0
	list := drawnFormulas(41, 6000, 6)
	for _, text := range list {
		if wantRuling(t, text) {
			valid++
		}
	}
	if valid < 500 || valid > len(list)-500 {
		t.Errorf("%d of %d formulas are valid: too few of a kind to tell", valid, len(list))
	}
}

// derivations are correct ones, which use each rule in the order that the
// table states.
func derivations() map[string][]api.Move {
	return map[string][]api.Move{
		"(p>p)":                 {{Rule: 5}, {Rule: 0}},
		"(q>(p>p))":             {{Rule: 5}, {Rule: 5}, {Rule: 0, At: 1}},
		"(f>p)":                 {{Rule: 5}, {Rule: 1}},
		"(p>(f>(q|r)))":         {{Rule: 5}, {Rule: 5}, {Rule: 1, At: 1}},
		"(p>(q>(p&q)))":         {{Rule: 5}, {Rule: 5}, {Rule: 2}, {Rule: 0}, {Rule: 0, At: 1}},
		"(p>(p|q))":             {{Rule: 5}, {Rule: 3}, {Rule: 0}},
		"(p>(q|p))":             {{Rule: 5}, {Rule: 4}, {Rule: 0}},
		"((p&q)>p)":             {{Rule: 5}, {Rule: 6}, {Rule: 0}},
		"((p&q)>q)":             {{Rule: 5}, {Rule: 6}, {Rule: 0, At: 1}},
		"((p&q)>(r>p))":         {{Rule: 5}, {Rule: 5}, {Rule: 6}, {Rule: 0, At: 1}},
		"(r>((p&q)>q))":         {{Rule: 5}, {Rule: 5}, {Rule: 6, At: 1}, {Rule: 0, At: 2}},
		"((p|q)>(q|p))":         {{Rule: 5}, {Rule: 7}, {Rule: 4}, {Rule: 0}, {Rule: 3}, {Rule: 0}},
		"((p|q)>(r>(q|p)))":     {{Rule: 5}, {Rule: 5}, {Rule: 7}, {Rule: 4}, {Rule: 0, At: 1}, {Rule: 3}, {Rule: 0, At: 1}},
		"(p>((p>q)>q))":         {{Rule: 5}, {Rule: 5}, {Rule: 8, At: 1}, {Rule: 0, At: 1}},
		"((p>q)>(p>q))":         {{Rule: 5}, {Rule: 5}, {Rule: 8}, {Rule: 0, At: 1}},
		"(((p&q)>r)>(p>(q>r)))": {{Rule: 5}, {Rule: 5}, {Rule: 5}, {Rule: 9}, {Rule: 8, At: 2}, {Rule: 8, At: 2}, {Rule: 0, At: 2}},
		"(((p&q)>r)>(q>(p>r)))": {{Rule: 5}, {Rule: 5}, {Rule: 5}, {Rule: 9}, {Rule: 8, At: 2}, {Rule: 8, At: 2}, {Rule: 0, At: 2}},
		"((((p&q)>r)&p)>(q>r))": {{Rule: 5}, {Rule: 6}, {Rule: 9}, {Rule: 8, At: 1}, {Rule: 5}, {Rule: 8, At: 1}, {Rule: 0, At: 2}},
		"(((p|q)>r)>(p>r))":     {{Rule: 5}, {Rule: 5}, {Rule: 10}, {Rule: 8, At: 1}, {Rule: 0, At: 2}},
		"(((p|q)>r)>(q>r))":     {{Rule: 5}, {Rule: 5}, {Rule: 10}, {Rule: 8, At: 2}, {Rule: 0, At: 2}},
		"(((p>q)>r)>(q>r))":     {{Rule: 5}, {Rule: 5}, {Rule: 11}, {Rule: 5}, {Rule: 0}, {Rule: 0, At: 1}},
		"((p>q)>(((p>q)>r)>r))": {{Rule: 5}, {Rule: 5}, {Rule: 11, At: 1}, {Rule: 5}, {Rule: 8}, {Rule: 0, At: 2}, {Rule: 0, At: 1}},
		"(f>(f>f))":             {{Rule: 5}, {Rule: 5}, {Rule: 1, At: 1}},
		"(((p>f)>f)>((p>f)>f))": {{Rule: 5}, {Rule: 5}, {Rule: 11}, {Rule: 5}, {Rule: 8}, {Rule: 1, At: 2}, {Rule: 1, At: 1}},
		"(((p|(p>f))>f)>f)":     {{Rule: 5}, {Rule: 10}, {Rule: 11, At: 1}, {Rule: 5}, {Rule: 8}, {Rule: 1, At: 2}, {Rule: 1, At: 1}},
		"((p>(q&r))>(p>r))":     {{Rule: 5}, {Rule: 5}, {Rule: 8}, {Rule: 6, At: 1}, {Rule: 0, At: 2}},
		"(s>(((f&p)>q)>(s|f)))": {{Rule: 5}, {Rule: 5}, {Rule: 9, At: 1}, {Rule: 3}, {Rule: 0}},
	}
}

// P4.1: Check accepts derivations that Decide may not have chosen, in
// formulas of many parts, too.
func TestCheckDerivations(t *testing.T) {
	used := map[int]bool{}
	for text, moves := range derivations() {
		r := api.Ruling{Valid: true, Moves: moves}
		if e := logic.Check(text, r); e != api.OK || !isCorrect(text, r) {
			t.Errorf("Check(%s, %v) = %d", text, moves, e)
		}
		for _, m := range moves {
			used[m.Rule] = true
		}
	}
	if len(used) != 12 {
		t.Errorf("not all rules are used: %v", used)
	}
}

// P4.1: moves that a premise or the goal does not allow, although they would
// lead to what can be derived.
func TestCheckWrongMoves(t *testing.T) {
	for name, c := range map[string]struct {
		text  string
		moves []api.Move
	}{
		"no moves":                       {"(p>p)", nil},
		"an end is missing":              {"(p>p)", []api.Move{{Rule: 5}}},
		"a branch is missing":            {"(p>(p&p))", []api.Move{{Rule: 5}, {Rule: 2}, {Rule: 0}}},
		"a move too many":                {"(p>p)", []api.Move{{Rule: 5}, {Rule: 0}, {Rule: 0}}},
		"branches the other way":         {"(p>(q>(p&q)))", []api.Move{{Rule: 5}, {Rule: 5}, {Rule: 2}, {Rule: 0, At: 1}, {Rule: 0}}},
		"f is no atom":                   {"(f>f)", []api.Move{{Rule: 5}, {Rule: 0}}},
		"another atom":                   {"(p>q)", []api.Move{{Rule: 5}, {Rule: 0}}},
		"no atom":                        {"((p&q)>(p&q))", []api.Move{{Rule: 5}, {Rule: 0}}},
		"no false":                       {"(p>q)", []api.Move{{Rule: 5}, {Rule: 1}}},
		"a position for rule 2":          {"(p>(p&p))", []api.Move{{Rule: 5}, {Rule: 2, At: 1}, {Rule: 0}, {Rule: 0}}},
		"a position for rule 3":          {"(p>(p|q))", []api.Move{{Rule: 5}, {Rule: 3, At: 1}, {Rule: 0}}},
		"a position for rule 4":          {"(p>(q|p))", []api.Move{{Rule: 5}, {Rule: 4, At: -1}, {Rule: 0}}},
		"a position for rule 5":          {"(p>p)", []api.Move{{Rule: 5, At: 1}, {Rule: 0}}},
		"3 for 2":                        {"(p>(p&p))", []api.Move{{Rule: 5}, {Rule: 3}, {Rule: 0}, {Rule: 0}}},
		"4 for 2":                        {"(p>(p&p))", []api.Move{{Rule: 5}, {Rule: 4}, {Rule: 0}, {Rule: 0}}},
		"5 for 2":                        {"(p>(p&p))", []api.Move{{Rule: 5}, {Rule: 5}, {Rule: 0}, {Rule: 0}}},
		"3 for 5":                        {"(p>p)", []api.Move{{Rule: 3}, {Rule: 0}}},
		"5 for 3":                        {"(p>(p|q))", []api.Move{{Rule: 5}, {Rule: 5}, {Rule: 0}}},
		"left for right":                 {"(p>(q|p))", []api.Move{{Rule: 5}, {Rule: 3}, {Rule: 0}}},
		"right for left":                 {"(p>(p|q))", []api.Move{{Rule: 5}, {Rule: 4}, {Rule: 0}}},
		"both for one":                   {"(p>(p|p))", []api.Move{{Rule: 5}, {Rule: 2}, {Rule: 0}, {Rule: 0}}},
		"one for both":                   {"(p>(p&q))", []api.Move{{Rule: 5}, {Rule: 3}, {Rule: 0}}},
		"the premise is gone":            {"((p&q)>(r>p))", []api.Move{{Rule: 5}, {Rule: 5}, {Rule: 6}, {Rule: 0}}},
		"6 for 7":                        {"((p|q)>p)", []api.Move{{Rule: 5}, {Rule: 6}, {Rule: 0}}},
		"7 for 6":                        {"((p&p)>p)", []api.Move{{Rule: 5}, {Rule: 7}, {Rule: 0}, {Rule: 0}}},
		"cases the other way":            {"((p|q)>(q|p))", []api.Move{{Rule: 5}, {Rule: 7}, {Rule: 3}, {Rule: 0}, {Rule: 4}, {Rule: 0}}},
		"only one case":                  {"((p|q)>p)", []api.Move{{Rule: 5}, {Rule: 7}, {Rule: 0}}},
		"8 without the atom":             {"((p>q)>q)", []api.Move{{Rule: 5}, {Rule: 8}, {Rule: 0}}},
		"8 with another atom":            {"(r>((p>q)>q))", []api.Move{{Rule: 5}, {Rule: 5}, {Rule: 8, At: 1}, {Rule: 0, At: 1}}},
		"8 with f, no atom":              {"(f>((f>q)>q))", []api.Move{{Rule: 5}, {Rule: 5}, {Rule: 8, At: 1}, {Rule: 0, At: 1}}},
		"8 with no atom":                 {"((p&p)>(((p&p)>q)>q))", []api.Move{{Rule: 5}, {Rule: 5}, {Rule: 8, At: 1}, {Rule: 0, At: 1}}},
		"8 with (p>p)":                   {"((p>p)>(((p>p)>q)>q))", []api.Move{{Rule: 5}, {Rule: 5}, {Rule: 8, At: 1}, {Rule: 0, At: 1}}},
		"8 keeps no premise":             {"(p>((p>q)>q))", []api.Move{{Rule: 5}, {Rule: 5}, {Rule: 8, At: 1}, {Rule: 0, At: 2}}},
		"9 for 10":                       {"(((p|q)>r)>(q>r))", []api.Move{{Rule: 5}, {Rule: 5}, {Rule: 9}, {Rule: 8, At: 2}, {Rule: 0, At: 2}}},
		"10 for 9":                       {"(((p&q)>r)>(q>r))", []api.Move{{Rule: 5}, {Rule: 5}, {Rule: 10}, {Rule: 8, At: 2}, {Rule: 0, At: 2}}},
		"9 the other way":                {"(((p&q)>r)>(p>(q>r)))", []api.Move{{Rule: 5}, {Rule: 5}, {Rule: 5}, {Rule: 9, At: 1}, {Rule: 8, At: 2}, {Rule: 8, At: 2}, {Rule: 0, At: 2}}},
		"10 the other way":               {"(((p|q)>r)>(q>r))", []api.Move{{Rule: 5}, {Rule: 5}, {Rule: 10}, {Rule: 8, At: 1}, {Rule: 0, At: 2}}},
		"11, second first":               {"(((p>q)>r)>(q>r))", []api.Move{{Rule: 5}, {Rule: 5}, {Rule: 11}, {Rule: 0, At: 1}, {Rule: 5}, {Rule: 0}}},
		"11 without its first":           {"(((p>q)>r)>r)", []api.Move{{Rule: 5}, {Rule: 11}, {Rule: 0}}},
		"11 for 9":                       {"(((p&q)>r)>(q>r))", []api.Move{{Rule: 5}, {Rule: 5}, {Rule: 11}, {Rule: 5}, {Rule: 0}, {Rule: 0, At: 1}}},
		"11 keeps no ((A>B)>C)":          {"(((p>q)>r)>(q>r))", []api.Move{{Rule: 5}, {Rule: 5}, {Rule: 11}, {Rule: 5}, {Rule: 0, At: 1}, {Rule: 0, At: 1}}},
		"no such position":               {"(p>p)", []api.Move{{Rule: 5}, {Rule: 0, At: 1}}},
		"position -1":                    {"(p>p)", []api.Move{{Rule: 5}, {Rule: 0, At: -1}}},
		"no premises":                    {"p", []api.Move{{Rule: 0}}},
		"rule 12":                        {"(p>p)", []api.Move{{Rule: 5}, {Rule: 12}}},
		"rule -1":                        {"(p>p)", []api.Move{{Rule: 5}, {Rule: -1}}},
		"rule 5 for what is no such one": {"(p&p)", []api.Move{{Rule: 5}, {Rule: 0}}},
	} {
		r := api.Ruling{Valid: true, Moves: c.moves}
		if e := logic.Check(c.text, r); e != api.ErrAnswer || isCorrect(c.text, r) {
			t.Errorf("%s: Check(%s, %v) = %d", name, c.text, c.moves, e)
		}
	}
}

// P4.1: a ruling is a derivation or a model, and nothing else beside it.
func TestCheckOtherParts(t *testing.T) {
	derivation := []api.Move{{Rule: 5}, {Rule: 0}}
	low := api.Model{Above: [][]int{{0, 1}, {1}}, Marks: []int{0, 1}}
	for name, c := range map[string]struct {
		text string
		r    api.Ruling
		want api.Errno
	}{
		"derivation":              {"(p>p)", api.Ruling{Valid: true, Moves: derivation}, api.OK},
		"empty model beside it":   {"(p>p)", api.Ruling{Valid: true, Moves: derivation, Model: api.Model{Above: [][]int{}, Marks: []int{}}}, api.OK},
		"model beside it":         {"(p>p)", api.Ruling{Valid: true, Moves: derivation, Model: low}, api.ErrAnswer},
		"worlds beside it":        {"(p>p)", api.Ruling{Valid: true, Moves: derivation, Model: api.Model{Above: [][]int{nil}}}, api.ErrAnswer},
		"marks beside it":         {"(p>p)", api.Ruling{Valid: true, Moves: derivation, Model: api.Model{Marks: []int{0}}}, api.ErrAnswer},
		"said not to be valid":    {"(p>p)", api.Ruling{Moves: derivation}, api.ErrAnswer},
		"nothing":                 {"(p>p)", api.Ruling{}, api.ErrAnswer},
		"only said to be valid":   {"(p>p)", api.Ruling{Valid: true}, api.ErrAnswer},
		"model":                   {"(p|(p>f))", api.Ruling{Model: low}, api.OK},
		"no moves beside it":      {"(p|(p>f))", api.Ruling{Moves: []api.Move{}, Model: low}, api.OK},
		"moves beside it":         {"(p|(p>f))", api.Ruling{Moves: derivation, Model: low}, api.ErrAnswer},
		"model, said to be valid": {"(p|(p>f))", api.Ruling{Valid: true, Model: low}, api.ErrAnswer},
		"nothing at all":          {"(p|(p>f))", api.Ruling{}, api.ErrAnswer},
		"world 0 forces it":       {"(q|(q>f))", api.Ruling{Model: low}, api.ErrAnswer},
		"only world 1 does not":   {"(p>q)", api.Ruling{Model: api.Model{Above: [][]int{{0}, {1}}, Marks: []int{0, 1}}}, api.ErrAnswer},
		"the other way round":     {"(p>q)", api.Ruling{Model: api.Model{Above: [][]int{{0}, {1}}, Marks: []int{1, 0}}}, api.OK},
		"worlds above each other": {"(p|(p>f))", api.Ruling{Model: api.Model{Above: [][]int{{0, 1, 2}, {0, 1, 2}, {2}}, Marks: []int{0, 0, 1}}}, api.OK},
		"no model":                {"(p|(p>f))", api.Ruling{Model: api.Model{Above: [][]int{{0, 1}, {}}, Marks: []int{0, 1}}}, api.ErrAnswer},
	} {
		if e := logic.Check(c.text, c.r); e != c.want || isCorrect(c.text, c.r) != (c.want == api.OK) {
			t.Errorf("%s: Check(%s, %v) = %d", name, c.text, c.r, e)
		}
	}
}

// P4.1: the limits of a ruling's model and moves.
func TestCheckAtLimits(t *testing.T) {
	for count, want := range map[int]api.Errno{4095: api.OK, 4096: api.OK, 4097: api.ErrAnswer} {
		if e := logic.Check("(p|(p>f))", api.Ruling{Model: fan(count)}); e != want {
			t.Errorf("Check with %d worlds = %d", count, e)
		}
	}
	for _, count := range []int{19999, 20000, 20001, 1 << 20} {
		moves := slices.Repeat([]api.Move{{Rule: 5}}, count)
		if e := logic.Check("(p>p)", api.Ruling{Valid: true, Moves: moves}); e != api.ErrAnswer {
			t.Errorf("Check with %d moves = %d", count, e)
		}
	}
}

// P4.1: rulings that have been changed a bit, and ones of other formulas.
func TestCheckChangedRulings(t *testing.T) {
	r := rand.New(rand.NewSource(42))
	correct := 0
	list := drawnFormulas(43, 1500, 6)
	for i, text := range list {
		for _, from := range []string{text, text, list[(i+1)%len(list)]} {
			changed := changedRuling(r, decide(t, from))
			want := api.ErrAnswer
			if isCorrect(text, changed) {
				want = api.OK
				correct++
			}
			if e := logic.Check(text, changed); e != want {
				t.Errorf("Check(%s, %v) = %d", text, changed, e)
			}
		}
	}
	if correct < 200 {
		t.Errorf("only %d changed rulings are correct: too few to tell", correct)
	}
}

// changedRuling changes one thing of a ruling, or nothing.
func changedRuling(r *rand.Rand, old api.Ruling) api.Ruling {
	c := cloneRuling(old)
	if len(c.Moves) == 0 {
		world := r.Intn(len(c.Model.Marks))
		switch r.Intn(4) {
		case 0:
			c.Model.Marks[world] ^= 1 << r.Intn(4)
		case 1:
			c.Model = drawnModel(r, 1+r.Intn(4))
		case 2:
			list := c.Model.Above[world]
			at := r.Intn(len(list))
			c.Model.Above[world] = slices.Delete(list, at, at+1)
		}
		return c
	}
	at := r.Intn(len(c.Moves))
	switch r.Intn(6) {
	case 0:
		c.Moves[at].At += r.Intn(3) - 1
	case 1:
		c.Moves[at].Rule = r.Intn(12)
	case 2:
		c.Moves = slices.Insert(c.Moves, at, c.Moves[r.Intn(len(c.Moves))])
	case 3:
		c.Moves = slices.Delete(c.Moves, at, at+1)
	case 4:
		c.Moves[at], c.Moves[0] = c.Moves[0], c.Moves[at]
	}
	return c
}
