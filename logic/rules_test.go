package logic_test

import (
	"fmt"
	"math"
	"math/rand"
	"slices"
	"strings"
	"testing"

	"turndown/api"
	"turndown/logic"
)

// wantSyntax checks that every function returns ErrSyntax exactly if the text
// is not a formula, whatever the other argument is, with nothing else.
func wantSyntax(t *testing.T, text string) {
	t.Helper()
	is := isFormula(text)
	r, e1 := logic.Decide(text)
	list, e2 := logic.Forces(api.Model{Above: [][]int{{0}}, Marks: []int{0}}, text)
	classical, e3 := logic.Classical(text)
	negated, e4 := logic.Negate(text)
	e5 := logic.Check(text, api.Ruling{})
	e6 := logic.Check(text, api.Ruling{Valid: true, Moves: []api.Move{{Rule: 5}, {}}})
	none, e7 := logic.Forces(api.Model{}, text)
	for _, e := range []api.Errno{e1, e2, e3, e4, e5, e6, e7} {
		if (e == api.ErrSyntax) == is {
			t.Errorf("%q: %d %d %d %d %d %d %d", text, e1, e2, e3, e4, e5, e6, e7)
			return
		}
	}
	if e1 != api.OK && !sameRuling(r, api.Ruling{}) || e2 != api.OK && len(list) != 0 || e3 != api.OK && classical || e4 != api.OK && negated != "" || len(none) != 0 {
		t.Errorf("%q: an error together with %v, %v, %v, %s, %v", text, r, list, classical, negated, none)
	}
}

// P4.1, P4.2: texts that are formulas or not.
func TestSyntax(t *testing.T) {
	for text, want := range map[string]bool{
		"f": true, "p": true, "q": true, "r": true, "s": true, "(p&q)": true, "(f|(r>s))": true, "((p>q)&f)": true,
		"(p>(p>(p>(p>(p>p)))))": true, "(((((s&s)&s)&s)&s)&s)": true, "(((p|q)>r)&((s>f)|p))": true,
		"": false, "t": false, "P": false, "o": false, "0": false, " p": false, "p ": false, "p\n": false, "(p & q)": false, "pp": false,
		"()": false, "(p)": false, "((p))": false, "(p&)": false, "(&p)": false, "(p&q": false, "p&q)": false, "p&q": false, "(p&q))": false,
		"((p&q)": false, "(p&q&r)": false, "(pq)": false, "(p+q)": false, "(p-q)": false, "(p=q)": false, "(p<q)": false, "(p&&q)": false,
		"(p>q]": false, "[p>q]": false, "(p>q)p": false, "p(p>q)": false, "(p>q)(p>q)": false, "(p>(q)": false, ")p>q(": false, "(": false, ")": false,
		"&": false, "(((((((": false, "(p&q\x00": false, "p\x00": false, "\x00": false, "(p∧q)": false, "é": false, "\xff": false, "(p\xffq)": false,
		"(p>(p>(p>(p>(p>(p>p))))))": false, "((((((f&f)&f)&f)&f)&f)&f)": false, "((((p|q)>(r|f))&((s>f)|p))|f)": false,
	} {
		if isFormula(text) != want {
			t.Errorf("the reference is wrong about %q", text)
		}
		wantSyntax(t, text)
	}
}

// P4.1, P4.2: all short texts, and formulas with a changed byte.
func TestSyntaxOfAll(t *testing.T) {
	const bytes = "(p&f)>|q x"
	texts := []string{""}
	for from, size := 0, 0; size < 5; size++ {
		to := len(texts)
		for _, text := range texts[from:to] {
			for i := range len(bytes) {
				texts = append(texts, text+bytes[i:i+1])
			}
		}
		from = to
	}
	for _, text := range texts {
		if e := logic.Check(text, api.Ruling{}); (e == api.ErrSyntax) == isFormula(text) {
			t.Errorf("Check(%q) = %d", text, e)
		}
	}
	r := rand.New(rand.NewSource(59))
	for _, text := range drawnFormulas(60, 3000, 8) {
		wantSyntax(t, text)
		at, c := r.Intn(len(text)), string(bytes[r.Intn(len(bytes))])
		wantSyntax(t, text[:at]+c+text[at+1:])
		wantSyntax(t, text[:at]+c+text[at:])
		wantSyntax(t, text[:at]+text[at+1:])
	}
}

// P1: very long texts.
func TestLongTexts(t *testing.T) {
	const count = 1 << 20
	for _, text := range []string{
		strings.Repeat("(", count), strings.Repeat(")", count), strings.Repeat("p", count), strings.Repeat("(p&", count),
		strings.Repeat("(p>", count) + "p" + strings.Repeat(")", count),
		strings.Repeat("(", count) + "p" + strings.Repeat(">p)", count),
		"(p>p)" + strings.Repeat(" ", count),
	} {
		wantSyntax(t, text)
	}
}

// answers are the results of all functions, as a text.
func answers(text string, r api.Ruling) string {
	decided, e1 := logic.Decide(text)
	e2 := logic.Check(text, r)
	list, e3 := logic.Forces(r.Model, text)
	classical, e4 := logic.Classical(text)
	negated, e5 := logic.Negate(text)
	return fmt.Sprint(decided, e1, e2, list, e3, classical, e4, negated, e5)
}

// P2 and Rule 5: the same call has the same result, whatever was called in
// between, and changes no argument.
func TestCallsChangeNothing(t *testing.T) {
	first := map[string]string{}
	for range 3 {
		r := rand.New(rand.NewSource(61))
		for i, text := range append(drawnFormulas(62, 300, 6), "", "(p)") {
			ruling := decide(t, "(p>p)")
			if i%2 == 0 {
				ruling = api.Ruling{Model: drawnModel(r, 1+i%5)}
			}
			kept := cloneRuling(ruling)
			call := fmt.Sprint(text, ruling)
			got := answers(text, ruling)
			if before, ok := first[call]; ok && before != got {
				t.Fatalf("%s: first %s, then %s", call, before, got)
			}
			first[call] = got
			if !sameRuling(ruling, kept) {
				t.Errorf("%s: an argument has been changed", call)
			}
		}
	}
}

// Rule 5: results are new memory, and no two lists of one share it.
func TestResultsAreNew(t *testing.T) {
	for _, text := range []string{"(p>p)", "((p>q)|(q>((p>f)>f)))", "(p|(p>f))", "((p|q)>(q|p))"} {
		want := fmt.Sprint(decide(t, text))
		for range 2 {
			r := decide(t, text)
			clear(r.Moves[:cap(r.Moves)])
			clear(r.Model.Marks[:cap(r.Model.Marks)])
			for i, list := range r.Model.Above {
				kept := cloneModel(r.Model)
				for j := range list[:cap(list)] {
					list[:cap(list)][j] = -1
				}
				for j, other := range r.Model.Above {
					if j != i && !slices.Equal(other, kept.Above[j]) {
						t.Errorf("%s: the lists of worlds %d and %d share memory", text, i, j)
					}
				}
			}
		}
		if got := fmt.Sprint(decide(t, text)); got != want {
			t.Errorf("Decide(%s): first %s, then %s", text, want, got)
		}
	}
	m := fan(5)
	first, _ := logic.Forces(m, "(p>p)")
	clear(first[:cap(first)])
	second, _ := logic.Forces(m, "(p>p)")
	if !slices.Equal(second, []int{0, 1, 2, 3, 4}) || !sameModel(m, fan(5)) {
		t.Errorf("Forces shares memory: %v, %v", second, m)
	}
}

// P1: each function returns, for all arguments.
func TestNoPanics(t *testing.T) {
	numbers := []int{math.MinInt, -1, 0, 1, 2, 5, 11, 12, 15, 16, 63, 64, 4096, 4097, math.MaxInt}
	texts := []string{"", "f", "p", "(p>p)", "(p&q)", "(((p>q)>r)>s)", "(((p|q)>f)>r)", "((p&f)|(q>p))", "((((("}
	for _, x := range numbers {
		for _, y := range numbers {
			models := []api.Model{
				{Above: [][]int{{x, y}}, Marks: []int{0}}, {Above: [][]int{{0}}, Marks: []int{x}}, {Above: [][]int{{x}, {y}}, Marks: []int{0, 1}},
				{Above: [][]int{{0, x}, {1, y}}, Marks: []int{x, y}}, {Above: [][]int{nil, {x}}}, {Marks: []int{x, y}},
			}
			moves := [][]api.Move{
				{{Rule: x, At: y}}, {{Rule: 5}, {Rule: x, At: y}}, {{Rule: 5}, {Rule: 0}, {Rule: x, At: y}},
				{{Rule: 5}, {Rule: 11}, {Rule: x, At: y}}, {{Rule: 2}, {Rule: x, At: y}, {Rule: x, At: y}},
			}
			for _, text := range texts {
				for _, m := range models {
					answers(text, api.Ruling{Model: m})
					logic.Check(text, api.Ruling{Valid: true, Model: m})
				}
				for _, list := range moves {
					logic.Check(text, api.Ruling{Valid: true, Moves: list})
					logic.Check(text, api.Ruling{Moves: list})
				}
			}
		}
	}
}
