package stop_test

import (
	"math/big"
	"math/rand"
	"slices"
	"testing"

	"turndown/api"
)

// This file has slow computations, straight from the chapter's terms, which
// share no code with the package.

// lift is the chapter's first example: 1 is worth going to from 0.
func lift() api.Chain {
	return api.Chain{Next: [][]int{{0, 4}, {0, 0}}, Pay: []int{1, 5}, Cost: []int{2, 0}}
}

// half goes from 0 to 1 or 2, and back from 2 to 0.
func half() api.Chain {
	return api.Chain{Next: [][]int{{0, 2, 2}, {0, 0, 0}, {4, 0, 0}}, Pay: []int{0, 10, 0}, Cost: []int{1, 0, 1}}
}

func one(next, pay, cost int) api.Chain {
	return api.Chain{Next: [][]int{{next}}, Pay: []int{pay}, Cost: []int{cost}}
}

// circle never ends: each state leads to the next one, the last one to 0.
func circle(pay ...int) api.Chain {
	c := api.Chain{Pay: pay, Cost: make([]int, len(pay))}
	for s := range pay {
		next := make([]int, len(pay))
		next[(s+1)%len(pay)] = 4
		c.Next = append(c.Next, next)
	}
	return c
}

// climb leads from each state to the next one with the probability 1/4, and
// back to 0 otherwise; the last one ends instead of going on.
func climb(count, pay, cost int) api.Chain {
	c := api.Chain{}
	for s := range count {
		next := make([]int, count)
		next[0] = 3
		if s+1 < count {
			next[s+1]++
		}
		c.Next = append(c.Next, next)
		c.Pay = append(c.Pay, 0)
		c.Cost = append(c.Cost, cost)
	}
	c.Pay[count-1] = pay
	return c
}

// drawn returns a chain with count states; if hard is true, most states never
// end, have few next ones, and often cost nothing.
func drawn(r *rand.Rand, count int, hard bool) api.Chain {
	c := api.Chain{}
	for range count {
		next, total := make([]int, count), r.Intn(5)
		if hard && r.Intn(4) > 0 {
			total = 4
		}
		state := r.Intn(count)
		for range total {
			if !hard || r.Intn(3) == 0 {
				state = r.Intn(count)
			}
			next[state]++
		}
		pay, cost := r.Intn(20), r.Intn(5)
		if r.Intn(4) == 0 {
			pay, cost = r.Intn(api.MaxGain+1), r.Intn(api.MaxCost+1)
		}
		if hard && r.Intn(2) == 0 {
			cost = 0
		}
		c.Next, c.Pay, c.Cost = append(c.Next, next), append(c.Pay, pay), append(c.Cost, cost)
	}
	return c
}

// drawnChains are drawn anew by every test.
func drawnChains(seed int64) []api.Chain {
	r := rand.New(rand.NewSource(seed))
	chains := []api.Chain{
		lift(), half(), circle(3), circle(7, 0, 7), circle(1, 2, 3, 4, 5, 6), circle(0, 0),
		climb(6, 1000, 1), climb(6, 1000, 0), climb(6, 0, 100), climb(5, 999, 100), climb(2, 40, 3),
		one(0, 0, 0), one(3, 0, 4), one(4, 0, 0), one(4, 1000, 100), one(1, 0, 100),
	}
	for i := range 150 {
		chains = append(chains, drawn(r, 1+i%6, i%3 != 0))
	}
	return chains
}

func clone(c api.Chain) api.Chain {
	result := api.Chain{Pay: slices.Clone(c.Pay), Cost: slices.Clone(c.Cost)}
	for _, next := range c.Next {
		result.Next = append(result.Next, slices.Clone(next))
	}
	return result
}

func sameChain(a, b api.Chain) bool {
	return slices.EqualFunc(a.Next, b.Next, slices.Equal[[]int]) &&
		slices.Equal(a.Pay, b.Pay) && slices.Equal(a.Cost, b.Cost)
}

// ascendingLists returns all strictly ascending lists of states.
func ascendingLists(count int) [][]int {
	lists := [][]int{nil}
	for s := range count {
		for _, list := range slices.Clone(lists) {
			lists = append(lists, append(slices.Clone(list), s))
		}
	}
	return lists
}

// isSound walks from each state to all that it can reach before a stop.
func isSound(c api.Chain, rule []int) bool {
	for from := range c.Next {
		seen, leaves := map[int]bool{from: true}, false
		for work := []int{from}; len(work) > 0; work = work[1:] {
			s, total := work[0], 0
			if slices.Contains(rule, s) {
				leaves = true
				continue
			}
			for t, number := range c.Next[s] {
				total += number
				if number > 0 && !seen[t] {
					seen[t] = true
					work = append(work, t)
				}
			}
			leaves = leaves || total < 4
		}
		if !leaves {
			return false
		}
	}
	return true
}

// onward is what continuing gives, if the next states have these values.
func onward(c api.Chain, s int, values []api.Frac) *big.Rat {
	total := big.NewRat(int64(-4*c.Cost[s]), 1)
	for t, number := range c.Next[s] {
		total.Add(total, new(big.Rat).Mul(big.NewRat(int64(number), 1), rat(values[t])))
	}
	return total.Quo(total, big.NewRat(4, 1))
}

// areOfRule reports whether the values satisfy the equations of the rule,
// which only one list of values does, if the rule is sound.
func areOfRule(c api.Chain, rule []int, values []api.Frac) bool {
	if len(values) != len(c.Next) {
		return false
	}
	for s, f := range values {
		want := onward(c, s, values)
		if slices.Contains(rule, s) {
			want = big.NewRat(int64(c.Pay[s]), 1)
		}
		if f != frac(want) {
			return false
		}
	}
	return true
}

// patient returns what can be gained in more and more steps, after which one
// has to stop: in the end nearly the values of the chain.
func patient(c api.Chain) []float64 {
	values := make([]float64, len(c.Next))
	for s, pay := range c.Pay {
		values[s] = float64(pay)
	}
	for range 60000 {
		longer := make([]float64, len(values))
		for s, next := range c.Next {
			total := -4 * float64(c.Cost[s])
			for t, number := range next {
				total += float64(number) * values[t]
			}
			longer[s] = max(float64(c.Pay[s]), total/4)
		}
		values = longer
	}
	return values
}

func permutations(n int) [][]int {
	all := [][]int{{}}
	for next := range n {
		var longer [][]int
		for _, list := range all {
			for at := range len(list) + 1 {
				longer = append(longer, slices.Insert(slices.Clone(list), at, next))
			}
		}
		all = longer
	}
	return all
}

// accepted returns the candidate that is accepted in this order, or -1;
// greater numbers are better.
func accepted(order []int, skip int) int {
	for i := skip; i < len(order); i++ {
		if i == 0 || order[i] > slices.Max(order[:i]) {
			return order[i]
		}
	}
	return -1
}

// chosenByRecords uses that the i-th candidate, counted from 1, is better
// than all before it with the probability 1/i, independently of the others:
// the best one is accepted at i if no one between is better than all before.
func chosenByRecords(n, skip int) *big.Rat {
	total := new(big.Rat)
	for i := skip + 1; i <= n; i++ {
		chance := big.NewRat(1, int64(i))
		for j := skip + 1; j <= n; j++ {
			if j != i {
				chance.Mul(chance, big.NewRat(int64(j-1), int64(j)))
			}
		}
		total.Add(total, chance)
	}
	return total
}

// An outcome has a number of each offer, and their probability.
type outcome struct {
	numbers []int
	chance  *big.Rat
}

func outcomes(offers [][][2]int) []outcome {
	all := []outcome{{nil, big.NewRat(1, 1)}}
	for _, offer := range offers {
		var longer []outcome
		for _, o := range all {
			for _, pair := range offer {
				chance := big.NewRat(int64(pair[1]), 16)
				numbers := append(slices.Clone(o.numbers), pair[0])
				longer = append(longer, outcome{numbers, chance.Mul(chance, o.chance)})
			}
		}
		all = longer
	}
	return all
}

// mean returns the expectation of what gain returns for the outcomes.
func mean(all []outcome, gain func(numbers []int) int) api.Frac {
	total := new(big.Rat)
	for _, o := range all {
		total.Add(total, new(big.Rat).Mul(o.chance, big.NewRat(int64(gain(o.numbers)), 1)))
	}
	return frac(total)
}

func greatest(numbers []int) int {
	best := 0
	for _, number := range numbers {
		best = max(best, number)
	}
	return best
}

// firstAtLeast returns the first number that is at least its own bound.
func firstAtLeast(numbers, bounds []int) int {
	for i, number := range numbers {
		if number >= bounds[i] {
			return number
		}
	}
	return 0
}

// bestBounds tries every list of bounds, one for each offer.
func bestBounds(offers [][][2]int) api.Frac {
	all, lists := outcomes(offers), [][]int{nil}
	for _, offer := range offers {
		var longer [][]int
		for _, list := range lists {
			longer = append(longer, append(slices.Clone(list), api.MaxGain+1))
			for _, pair := range offer {
				longer = append(longer, append(slices.Clone(list), pair[0]))
			}
		}
		lists = longer
	}
	best := new(big.Rat)
	for _, bounds := range lists {
		here := rat(mean(all, func(numbers []int) int { return firstAtLeast(numbers, bounds) }))
		if here.Cmp(best) > 0 {
			best = here
		}
	}
	return frac(best)
}

// drawnOffer has from 1 to most pairs, with numbers below limit.
func drawnOffer(r *rand.Rand, most, limit int) [][2]int {
	offer := make([][2]int, 1+r.Intn(most))
	for i := range offer {
		offer[i] = [2]int{r.Intn(limit), 1}
	}
	for range 16 - len(offer) {
		offer[r.Intn(len(offer))][1]++
	}
	return offer
}

func drawnOffers(r *rand.Rand, count, most, limit int) [][][2]int {
	var offers [][][2]int
	for range count {
		offers = append(offers, drawnOffer(r, most, limit))
	}
	return offers
}

// frac is the valid fraction of x (a big.Rat is always reduced).
func frac(x *big.Rat) api.Frac {
	return api.Frac{Num: int(x.Num().Int64()), Den: int(x.Denom().Int64())}
}

func rat(f api.Frac) *big.Rat {
	return big.NewRat(int64(f.Num), int64(f.Den))
}

func whole(n int) api.Frac { return api.Frac{Num: n, Den: 1} }

func wantFrac(t *testing.T, what string, got api.Frac, e api.Errno, want api.Frac) {
	t.Helper()
	if got != want || e != api.OK {
		t.Errorf("%s = %v, %d; want %v, 0", what, got, e, want)
	}
}
