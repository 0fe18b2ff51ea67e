package logic_test

import (
	"math"
	"math/rand"
	"slices"
	"strings"
	"testing"

	"turndown/api"
	"turndown/logic"
)

// fan is a model of so many worlds, all above world 0, in which p is true in
// the odd worlds and q in the last one.
func fan(count int) api.Model {
	var m api.Model
	for world := range count {
		m.Above = append(m.Above, []int{world})
		m.Marks = append(m.Marks, world%2)
	}
	for world := 1; world < count; world++ {
		m.Above[0] = append(m.Above[0], world)
	}
	m.Marks[count-1] |= 2
	return m
}

// line is a model of so many worlds, each above those before it, in which p
// is true in the last one.
func line(count int) api.Model {
	m := api.Model{Marks: make([]int, count)}
	all := make([]int, count)
	for world := range count {
		all[world] = world
	}
	for world := range count {
		m.Above = append(m.Above, slices.Clone(all[world:]))
	}
	m.Marks[count-1] = 1
	return m
}

// wantForces checks which worlds force a formula.
func wantForces(t *testing.T, m api.Model, text string) {
	t.Helper()
	got, e := logic.Forces(m, text)
	if want := forcing(m, text); e != api.OK || !slices.Equal(got, want) {
		t.Errorf("Forces(%v, %s) = %v, %d; want %v", m, text, got, e, want)
	}
}

// P4.2: which worlds force which formulas, said by hand.
func TestForces(t *testing.T) {
	two := api.Model{Above: [][]int{{0, 1}, {1}}, Marks: []int{0, 1}}
	// World 2 has 0 and 1 above it; 3 and 4 are above each other.
	five := api.Model{Above: [][]int{{0}, {1}, {0, 1, 2}, {3, 4}, {3, 4}}, Marks: []int{1, 2, 0, 12, 12}}
	for _, c := range []struct {
		m    api.Model
		text string
		want []int
	}{
		{two, "f", nil},
		{two, "p", []int{1}},
		{two, "q", nil},
		{two, "(p>f)", nil},
		{two, "((p>f)>f)", []int{0, 1}},
		{two, "(p|(p>f))", []int{1}},
		{two, "(q>p)", []int{0, 1}},
		{two, "(p>q)", nil},
		{two, "(p&(q>f))", []int{1}},
		{five, "p", []int{0}},
		{five, "q", []int{1}},
		{five, "r", []int{3, 4}},
		{five, "s", []int{3, 4}},
		{five, "(r&s)", []int{3, 4}},
		{five, "(p|q)", []int{0, 1}},
		{five, "(p&q)", nil},
		{five, "((p&q)>f)", []int{0, 1, 2, 3, 4}},
		{five, "(p>f)", []int{1, 3, 4}},
		{five, "((p>f)|(q>f))", []int{0, 1, 3, 4}},
		{five, "((p|q)>f)", []int{3, 4}},
		{five, "(((p|q)>f)>f)", []int{0, 1, 2}},
		{five, "(f>f)", []int{0, 1, 2, 3, 4}},
	} {
		got, e := logic.Forces(c.m, c.text)
		if e != api.OK || !slices.Equal(got, c.want) {
			t.Errorf("Forces(%v, %s) = %v, %d; want %v", c.m, c.text, got, e, c.want)
		}
	}
}

// P4.2: drawn models and formulas, in few worlds and in more than 64.
func TestForcesDrawn(t *testing.T) {
	r := rand.New(rand.NewSource(44))
	for i, text := range drawnFormulas(45, 3000, 6) {
		wantForces(t, drawnModel(r, 1+i%9), text)
	}
	for _, text := range drawnFormulas(46, 40, 4) {
		for _, count := range []int{63, 64, 65, 130} {
			wantForces(t, drawnModel(r, count), text)
		}
	}
}

// P4.2: the greatest models.
func TestForcesAtLimits(t *testing.T) {
	fanned := fan(api.MaxWorlds)
	for _, text := range []string{"f", "p", "q", "(p>q)", "((p>f)>f)", "(p|(p>f))", "((q>p)&p)"} {
		wantForces(t, fanned, text)
	}
	for count, want := range map[int]api.Errno{1: api.OK, 4096: api.OK, 4097: api.ErrArg, 5000: api.ErrArg} {
		if list, e := logic.Forces(fan(count), "(p>p)"); e != want || e == api.OK && len(list) != count || e != api.OK && len(list) != 0 {
			t.Errorf("Forces with %d worlds = %d worlds, %d", count, len(list), e)
		}
	}
	m := line(1000)
	for text, want := range map[string]int{"p": 1, "(p>f)": 0, "((p>f)>f)": 1000, "(p|(p>f))": 1, "(p>p)": 1000} {
		if list, e := logic.Forces(m, text); e != api.OK || len(list) != want {
			t.Errorf("Forces of a line, %s = %d worlds, %d", text, len(list), e)
		}
	}
}

// wrongModels are no models, each for one reason.
func wrongModels() map[string]api.Model {
	above := func(lists ...[]int) api.Model { return api.Model{Above: lists, Marks: make([]int, len(lists))} }
	marks := func(numbers ...int) api.Model {
		return api.Model{Above: [][]int{{0, 1}, {1}}, Marks: numbers}
	}
	late := fan(200)
	late.Above[0] = slices.Delete(late.Above[0], 150, 151)
	late.Above[60] = append(late.Above[60], 150)
	return map[string]api.Model{
		"nil":                       {},
		"empty":                     {Above: [][]int{}, Marks: []int{}},
		"no marks":                  {Above: [][]int{{0}}},
		"no worlds":                 {Marks: []int{0}},
		"fewer marks":               marks(0),
		"more marks":                marks(0, 0, 0),
		"mark -1":                   marks(-1, 15),
		"last mark -1":              marks(0, -1),
		"mark 16":                   marks(0, 16),
		"marks 16":                  marks(16, 16),
		"marks 31":                  marks(15, 31),
		"least mark":                marks(math.MinInt, math.MinInt),
		"greatest mark":             marks(0, math.MaxInt),
		"p is lost":                 marks(1, 0),
		"s is lost":                 marks(8, 7),
		"one of two is lost":        marks(3, 1),
		"nil list":                  above(nil),
		"last list is nil":          above([]int{0}, nil),
		"not itself":                above([]int{1}, []int{1}),
		"the last one not itself":   above([]int{0, 1}, []int{0}),
		"descending":                above([]int{1, 0}, []int{1}),
		"twice itself":              above([]int{0, 0}),
		"twice another one":         above([]int{0, 1, 1}, []int{1}),
		"world -1":                  above([]int{-1, 0}),
		"world 1 of 1":              above([]int{0, 1}),
		"world 2 of 2":              above([]int{0, 1}, []int{1, 2}),
		"least world":               above([]int{math.MinInt, 0}),
		"greatest world":            above([]int{0, math.MaxInt}),
		"not those above those":     above([]int{0, 1}, []int{1, 2}, []int{2}),
		"not those above, downward": above([]int{0}, []int{0, 1}, []int{1, 2}),
		"not itself above those":    above([]int{0, 1}, []int{0, 1, 2}, []int{2}),
		"a world far away":          late,
		"very long list":            above(make([]int, 1<<20)),
		"very many worlds":          above(make([][]int, 1<<20)...),
		"very many marks":           {Above: [][]int{{0}}, Marks: make([]int, 1<<20)},
	}
}

// P4.2, P4.1: what is no model has ErrArg for Forces, and makes no correct
// ruling.
func TestWrongModels(t *testing.T) {
	for name, m := range wrongModels() {
		for _, text := range []string{"p", "(p>p)", "f"} {
			if list, e := logic.Forces(m, text); len(list) != 0 || e != api.ErrArg {
				t.Errorf("%s: Forces(%s) = %v, %d", name, text, list, e)
			}
			if e := logic.Check(text, api.Ruling{Model: m}); e != api.ErrAnswer {
				t.Errorf("%s: Check(%s) = %d", name, text, e)
			}
		}
	}
}

// P4.2: models with a small change are told from what is none.
func TestChangedModels(t *testing.T) {
	r := rand.New(rand.NewSource(47))
	wrong := 0
	for i := range 4000 {
		m := drawnModel(r, 2+i%4)
		world := r.Intn(len(m.Above))
		if r.Intn(2) == 0 {
			m.Marks[world] ^= 1 << r.Intn(4)
		} else if other := r.Intn(len(m.Above)); slices.Contains(m.Above[world], other) {
			m.Above[world] = slices.DeleteFunc(m.Above[world], func(w int) bool { return w == other })
		} else {
			m.Above[world] = append(m.Above[world], other)
			slices.Sort(m.Above[world])
		}
		if isModel(m) {
			wantForces(t, m, "((p>q)|r)")
			continue
		}
		wrong++
		if list, e := logic.Forces(m, "((p>q)|r)"); e != api.ErrArg || len(list) != 0 {
			t.Errorf("Forces(%v) = %v, %d", m, list, e)
		}
	}
	if wrong < 1000 || wrong > 3900 {
		t.Errorf("%d of 4000 are no models", wrong)
	}
}

// P4.2: what is classical is true for all values of its atoms.
func TestClassical(t *testing.T) {
	list := slices.Concat(formulas(1, "fpqrs"), formulas(2, "fpqrs"), formulas(3, "fpqs"), formulas(4, "pr"), drawnFormulas(48, 3000, 6))
	for _, text := range list {
		if got, e := logic.Classical(text); e != api.OK || got != isClassical(text) {
			t.Errorf("Classical(%s) = %v, %d", text, got, e)
		}
	}
	for text, want := range map[string]bool{
		"(p|(p>f))": true, "(((p>q)>p)>p)": true, "(((s>f)>f)>s)": true, "((p>q)|(q>r))": true,
		"p": false, "f": false, "(p>q)": false, "((p|q)>(p&q))": false, "((s>r)>(r>s))": false,
	} {
		if got, e := logic.Classical(text); e != api.OK || got != want {
			t.Errorf("Classical(%s) = %v, %d", text, got, e)
		}
	}
}

// P4.2: formulas that a single one of the 16 models of one world does not
// force.
func TestClassicalButForOne(t *testing.T) {
	for marks := range 16 {
		left, right := "", ""
		for i, letter := range []string{"p", "q", "r", "s"} {
			if marks>>i%2 == 1 {
				left = joined(left, letter, "&")
			} else {
				right = joined(right, letter, "|")
			}
		}
		if right == "" {
			right = "f"
		}
		text := joined(left, right, ">")
		if ok, e := logic.Classical(text); ok || e != api.OK {
			t.Errorf("Classical(%s) = %v, %d", text, ok, e)
		}
		got, _ := logic.Forces(api.Model{Above: [][]int{{0}}, Marks: []int{marks}}, text)
		other, _ := logic.Forces(api.Model{Above: [][]int{{0}}, Marks: []int{15 - marks}}, text)
		if len(got) != 0 || len(other) != 1 {
			t.Errorf("Forces with %d, %s = %v, with the other atoms %v", marks, text, got, other)
		}
	}
}

// joined returns the two formulas with a sign between them, or the second one
// if there is no first one.
func joined(left, right, sign string) string {
	if left == "" {
		return right
	}
	return "(" + left + sign + right + ")"
}

// P4.2: what is negated is a formula unless it has too many parts.
func TestNegate(t *testing.T) {
	for _, text := range append(drawnFormulas(49, 500, 6), "f", "s", "(p|q)", "(p&(p&(p&(p&p))))", "(p>(p>(p>(p>(p>p)))))", "((((((f|f)|f)|f)|f)|f)") {
		want, wantErr := "("+text+">f)", api.OK
		if !isFormula(text) {
			want, wantErr = "", api.ErrSyntax
		} else if parts(want) > 12 {
			want, wantErr = "", api.ErrArg
		}
		if got, e := logic.Negate(text); got != want || e != wantErr {
			t.Errorf("Negate(%s) = %s, %d; want %s, %d", text, got, e, want, wantErr)
		}
	}
	if _, e := logic.Negate("(((((p|q)|r)|s)|f)|p)"); e != api.ErrArg {
		t.Errorf("Negate of 11 parts = %d", e)
	}
	if text, e := logic.Negate("((((p|q)|r)|s)|f)"); text != "(((((p|q)|r)|s)|f)>f)" || e != api.OK {
		t.Errorf("Negate of 9 parts = %s, %d", text, e)
	}
}

// P4.3: a world that forces a formula shares this with those of its list.
func TestForcedAbove(t *testing.T) {
	r := rand.New(rand.NewSource(50))
	for i, text := range drawnFormulas(51, 2000, 6) {
		m := drawnModel(r, 1+i%12)
		list, _ := logic.Forces(m, text)
		for _, world := range list {
			for _, other := range m.Above[world] {
				if !slices.Contains(list, other) {
					t.Errorf("%v: world %d forces %s, world %d does not", m, world, text, other)
				}
			}
		}
	}
}

// P4.3: no formula has correct rulings of both kinds, so what is valid is
// forced by all worlds of all models, and classical.
func TestValidIsForced(t *testing.T) {
	r := rand.New(rand.NewSource(52))
	models := smallModels()
	for _, text := range append(formulas(3, "fpq"), drawnFormulas(53, 1500, 6)...) {
		if !decide(t, text).Valid {
			continue
		}
		if ok, _ := logic.Classical(text); !ok {
			t.Errorf("%s is valid, but not classical", text)
		}
		for range 5 {
			m := drawnModel(r, 1+r.Intn(6))
			if list, _ := logic.Forces(m, text); len(list) != len(m.Above) {
				t.Errorf("%s is valid, but forced only by %v of %v", text, list, m)
			}
		}
		for range 10 {
			m := models[r.Intn(len(models))]
			if e := logic.Check(text, api.Ruling{Model: m}); e != api.ErrAnswer {
				t.Errorf("%s is valid, but Check with %v = %d", text, m, e)
			}
		}
	}
}

// P4.3: what is not valid has no derivation: not those of other formulas, and
// no short list of moves.
func TestNotValidIsNotDerived(t *testing.T) {
	var found [][]api.Move
	for _, text := range drawnFormulas(54, 300, 6) {
		if r := decide(t, text); r.Valid {
			found = append(found, r.Moves)
		}
	}
	for _, text := range append(formulas(2, "fpq"), drawnFormulas(55, 300, 6)...) {
		if decide(t, text).Valid {
			continue
		}
		for _, moves := range found {
			if e := logic.Check(text, api.Ruling{Valid: true, Moves: moves}); e != api.ErrAnswer {
				t.Errorf("%s is not valid, but Check with %v = %d", text, moves, e)
			}
		}
		for _, moves := range blindMoves() {
			if e := logic.Check(text, api.Ruling{Valid: true, Moves: moves}); e != api.ErrAnswer {
				t.Errorf("%s is not valid, but Check with %v = %d", text, moves, e)
			}
		}
	}
}

// blindMoves are all lists of one or two moves of small numbers.
func blindMoves() [][]api.Move {
	var single []api.Move
	for rule := -1; rule <= 12; rule++ {
		single = append(single, api.Move{Rule: rule}, api.Move{Rule: rule, At: 1})
	}
	var lists [][]api.Move
	for _, first := range single {
		lists = append(lists, []api.Move{first})
		for _, second := range single {
			lists = append(lists, []api.Move{first, second})
		}
	}
	return lists
}

// P4.3: a formula negated twice is valid exactly if it is classical.
func TestNegatedTwice(t *testing.T) {
	both := map[bool]int{}
	for _, text := range append(formulas(3, "fpqr"), drawnFormulas(56, 2000, 4)...) {
		once, e1 := logic.Negate(text)
		twice, e2 := logic.Negate(once)
		if e1 != api.OK || e2 != api.OK {
			t.Errorf("Negate(%s): %d, %d", text, e1, e2)
		}
		classical, _ := logic.Classical(text)
		if got := decide(t, twice).Valid; got != classical {
			t.Errorf("%s: classical %v, but %s valid %v", text, classical, twice, got)
		}
		both[classical]++
	}
	if both[true] < 200 || both[false] < 200 {
		t.Errorf("too few of a kind: %v", both)
	}
}

// P4.3: (A|B) is valid exactly if A or B is.
func TestDisjunctions(t *testing.T) {
	list := drawnFormulas(57, 3000, 3)
	for i, left := range list {
		right := list[(i+1)%len(list)]
		either := decide(t, left).Valid || decide(t, right).Valid
		if text := "(" + left + "|" + right + ")"; decide(t, text).Valid != either {
			t.Errorf("%s: valid %v, of its sides %v", text, !either, either)
		}
	}
}

// P4.3: renaming atoms keeps what is valid, and exchanging them keeps what is
// not.
func TestRenaming(t *testing.T) {
	exchange := strings.NewReplacer("p", "s", "q", "p", "r", "q", "s", "r")
	merge := strings.NewReplacer("q", "p", "s", "r")
	for _, text := range drawnFormulas(58, 3000, 6) {
		valid := decide(t, text).Valid
		if other := exchange.Replace(text); decide(t, other).Valid != valid {
			t.Errorf("%s: valid %v, but not %s", text, valid, other)
		}
		if other := merge.Replace(text); valid && !decide(t, other).Valid {
			t.Errorf("%s is valid, but not %s", text, other)
		}
	}
}
