package stop_test

import (
	"fmt"
	"math"
	"slices"
	"testing"

	"turndown/api"
	"turndown/stop"
)

// answers are the results of all functions, as a text.
func answers(c api.Chain, rule []int, values []api.Frac, offers [][][2]int, n int) string {
	best, list, e1 := stop.Best(c)
	ruled, e2 := stop.Rule(c, rule)
	e3 := stop.Check(c, values)
	skip, f, e4 := stop.Secretary(n)
	chosen, e5 := stop.Chosen(n, 1)
	most, gained, e6 := stop.Prophet(offers)
	bounded, e7 := stop.Threshold(offers, n)
	return fmt.Sprint(best, list, e1, ruled, e2, e3, skip, f, e4, chosen, e5, most, gained, e6, bounded, e7)
}

func cloneOffers(offers [][][2]int) [][][2]int {
	var result [][][2]int
	for _, offer := range offers {
		result = append(result, slices.Clone(offer))
	}
	return result
}

// P2 and Rule 5: the same call has the same result, whatever was called in
// between, and changes no argument.
func TestCallsChangeNothing(t *testing.T) {
	first := map[string]string{}
	for range 3 {
		for _, c := range []api.Chain{lift(), half(), climb(6, 1000, 1), circle(1, 2), {}} {
			for _, rule := range [][]int{{0, 1}, {1, 0}, {1}} {
				values := []api.Frac{whole(3), whole(5)}
				offers := [][][2]int{{{9, 4}, {1, 12}}, {{3, 16}}, {{8, 7}, {2, 9}}}
				keptChain, keptRule, keptOffers := clone(c), slices.Clone(rule), cloneOffers(offers)
				call := fmt.Sprint(c, rule)
				got := answers(c, rule, values, offers, 5)
				if before, ok := first[call]; ok && before != got {
					t.Fatalf("%s: first %s, then %s", call, before, got)
				}
				first[call] = got
				if !sameChain(c, keptChain) || !slices.Equal(rule, keptRule) ||
					!slices.Equal(values, []api.Frac{whole(3), whole(5)}) ||
					!slices.EqualFunc(offers, keptOffers, slices.Equal[[][2]int]) {
					t.Error("an argument has been changed")
				}
			}
		}
	}
}

// Rule 5: results are new memory.
func TestResultsAreNew(t *testing.T) {
	c, rule := lift(), []int{1}
	values, list, _ := stop.Best(c)
	ruled, _ := stop.Rule(c, rule)
	clear(values[:cap(values)])
	clear(list[:cap(list)])
	clear(ruled[:cap(ruled)])
	if !sameChain(c, lift()) || !slices.Equal(rule, []int{1}) {
		t.Error("a result shares memory with an argument")
	}
	again, rest, _ := stop.Best(c)
	if !slices.Equal(again, []api.Frac{whole(3), whole(5)}) || !slices.Equal(rest, []int{1}) {
		t.Errorf("a result shares memory with another one: %v, %v", again, rest)
	}
	if again, _ := stop.Rule(c, rule); !slices.Equal(again, []api.Frac{whole(3), whole(5)}) {
		t.Errorf("a result shares memory with another one: %v", again)
	}
}

// P1: each function returns, for all arguments.
func TestNoPanics(t *testing.T) {
	numbers := []int{math.MinInt, -1, 0, 1, 2, 4, 16, 20, 1000, math.MaxInt}
	chains := []api.Chain{lift(), half(), climb(6, 1000, 100), circle(1, 2, 3, 4, 5, 6)}
	for _, c := range wrongChains() {
		chains = append(chains, c)
	}
	for _, x := range numbers {
		stop.Secretary(x)
		for _, y := range numbers {
			stop.Chosen(x, y)
			for _, offers := range [][][][2]int{nil, {{{x, y}}}, {{{x, 16}}, {{0, y}, {1, x}}}, {nil, {{x, y}}}} {
				stop.Prophet(offers)
				stop.Threshold(offers, x)
			}
			chains = append(chains, one(x, y, 0), one(4, x, y), one(y, 1, x))
		}
	}
	for _, c := range chains {
		stop.Best(c)
		for _, x := range numbers {
			for _, y := range numbers {
				stop.Rule(c, []int{x, y})
				stop.Check(c, []api.Frac{{Num: x, Den: y}})
				stop.Check(c, []api.Frac{{Num: x, Den: y}, {Num: y, Den: x}})
			}
		}
	}
}
