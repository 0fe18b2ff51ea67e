package stop_test

import (
	"math"
	"math/big"
	"math/rand"
	"slices"
	"testing"

	"turndown/api"
	"turndown/stop"
)

// P2.1: the chapter's example, single states, and chains that never end.
func TestBestExamples(t *testing.T) {
	cases := []struct {
		c      api.Chain
		values []api.Frac
		rule   []int
	}{
		{lift(), []api.Frac{whole(3), whole(5)}, []int{1}},
		{half(), []api.Frac{whole(7), whole(10), whole(6)}, []int{1}},
		{one(0, 0, 0), []api.Frac{whole(0)}, []int{0}},
		{one(0, 0, 7), []api.Frac{whole(0)}, []int{0}},
		{one(3, 9, 0), []api.Frac{whole(9)}, []int{0}},
		{one(4, 9, 0), []api.Frac{whole(9)}, []int{0}},
		{one(4, 0, 0), []api.Frac{whole(0)}, []int{0}},
		{circle(3, 8, 5), []api.Frac{whole(8), whole(8), whole(8)}, []int{1}},
		{circle(8, 3, 8), []api.Frac{whole(8), whole(8), whole(8)}, []int{0, 2}},
		{circle(4, 4), []api.Frac{whole(4), whole(4)}, []int{0, 1}},
		// Continuing gives just as much as stopping: both states have the value Pay.
		{api.Chain{Next: [][]int{{0, 4}, {0, 0}}, Pay: []int{3, 5}, Cost: []int{2, 0}},
			[]api.Frac{whole(3), whole(5)}, []int{0, 1}},
		// From 0 one tries again until 1 comes: 4 * v = 3 * v + 1000 - 400.
		{climb(2, 1000, 100), []api.Frac{whole(600), whole(1000)}, []int{1}},
		// The process may end: 4 * v = v + 2 * 10 - 4 * 1.
		{api.Chain{Next: [][]int{{1, 2}, {0, 0}}, Pay: []int{1, 10}, Cost: []int{1, 0}},
			[]api.Frac{{Num: 16, Den: 3}, whole(10)}, []int{1}},
	}
	for _, c := range cases {
		values, rule, e := stop.Best(c.c)
		if !slices.Equal(values, c.values) || !slices.Equal(rule, c.rule) || e != api.OK {
			t.Errorf("Best(%v) = %v, %v, %d; want %v, %v", c.c, values, rule, e, c.values, c.rule)
		}
		if e := stop.Check(c.c, c.values); e != api.OK {
			t.Errorf("Check(%v, %v) = %d", c.c, c.values, e)
		}
	}
}

// P2.1: the chapter's example, and rules that are negative, or not sound.
func TestRuleExamples(t *testing.T) {
	cases := []struct {
		c      api.Chain
		rule   []int
		values []api.Frac
		e      api.Errno
	}{
		{lift(), []int{0}, []api.Frac{whole(1), whole(0)}, api.OK},
		{lift(), nil, []api.Frac{whole(-2), whole(0)}, api.OK},
		{lift(), []int{}, []api.Frac{whole(-2), whole(0)}, api.OK},
		{lift(), []int{0, 1}, []api.Frac{whole(1), whole(5)}, api.OK},
		{lift(), []int{1}, []api.Frac{whole(3), whole(5)}, api.OK},
		{one(3, 0, 4), nil, []api.Frac{whole(-16)}, api.OK},
		{one(0, 5, 4), nil, []api.Frac{whole(-4)}, api.OK}, // the process ends, and the cost is paid
		{one(1, 0, 5), nil, []api.Frac{{Num: -20, Den: 3}}, api.OK},
		{one(4, 0, 4), nil, nil, api.ErrNone},
		{one(4, 0, 0), nil, nil, api.ErrNone},
		{one(4, 8, 4), []int{0}, []api.Frac{whole(8)}, api.OK},
		{circle(3, 8, 5), []int{2}, []api.Frac{whole(5), whole(5), whole(5)}, api.OK},
		{circle(3, 8, 5), nil, nil, api.ErrNone},
		// 1 and 2 lead to each other only: stopping in 0 is not enough.
		{api.Chain{Next: [][]int{{0, 1, 0}, {0, 0, 4}, {0, 4, 0}}, Pay: make([]int, 3), Cost: make([]int, 3)}, []int{0}, nil, api.ErrNone},
		// 0 may end, but also come to 1, where it stays.
		{api.Chain{Next: [][]int{{0, 1}, {0, 4}}, Pay: []int{9, 9}, Cost: []int{0, 0}}, nil, nil, api.ErrNone},
		{climb(6, 0, 100), nil, []api.Frac{
			whole(-546000), whole(-545600), whole(-544000), whole(-537600), whole(-512000), whole(-409600)}, api.OK},
	}
	for _, c := range cases {
		values, e := stop.Rule(c.c, c.rule)
		if !slices.Equal(values, c.values) || e != c.e {
			t.Errorf("Rule(%v, %v) = %v, %d; want %v, %d", c.c, c.rule, values, e, c.values, c.e)
		}
	}
}

// P2.1 and P2.4: the values of all rules satisfy the equations; those of the
// chain are the greatest ones of sound rules, and those of the rule that Best
// returns.
func TestAllRules(t *testing.T) {
	unsound := 0
	for _, c := range drawnChains(1) {
		best := make([]*big.Rat, len(c.Next))
		for _, rule := range ascendingLists(len(c.Next)) {
			values, e := stop.Rule(c, rule)
			if !isSound(c, rule) {
				unsound++
				if len(values) != 0 || e != api.ErrNone {
					t.Errorf("Rule(%v, %v) = %v, %d; want ErrNone", c, rule, values, e)
				}
				continue
			}
			if !areOfRule(c, rule, values) || e != api.OK {
				t.Fatalf("Rule(%v, %v) = %v, %d", c, rule, values, e)
			}
			for s, f := range values {
				if best[s] == nil || rat(f).Cmp(best[s]) > 0 {
					best[s] = rat(f)
				}
			}
		}
		wantBest(t, c, best)
	}
	if unsound < 100 {
		t.Errorf("only %d rules were not sound", unsound)
	}
}

func wantBest(t *testing.T, c api.Chain, best []*big.Rat) {
	t.Helper()
	var want []api.Frac
	var wantRule []int
	for s, x := range best {
		want = append(want, frac(x))
		if frac(x) == whole(c.Pay[s]) {
			wantRule = append(wantRule, s)
		}
	}
	values, rule, e := stop.Best(c)
	if !slices.Equal(values, want) || !slices.Equal(rule, wantRule) || e != api.OK {
		t.Errorf("Best(%v) = %v, %v, %d; want %v, %v", c, values, rule, e, want, wantRule)
	}
	if again, e := stop.Rule(c, rule); !slices.Equal(again, values) || e != api.OK {
		t.Errorf("Rule(%v, %v) = %v, %d; Best has %v", c, rule, again, e, values)
	}
	if e := stop.Check(c, values); e != api.OK {
		t.Errorf("Check(%v, %v) = %d", c, values, e)
	}
}

// P4: no patience gains more than the values of the chain, and much of it
// gains nearly as much.
func TestBestIsBest(t *testing.T) {
	for _, c := range drawnChains(2) {
		values, _, e := stop.Best(c)
		if e != api.OK {
			t.Fatalf("Best(%v): %d", c, e)
		}
		for s, near := range patient(c) {
			exact, _ := rat(values[s]).Float64()
			if math.Abs(exact-near) > 0.01 {
				t.Errorf("Best(%v) has %v in %d; patience gains %v", c, values[s], s, near)
			}
		}
	}
}

// P2.4: the values are at least Pay and at least what continuing gives, and
// equal to one of them, so that no smaller list has both properties.
func TestValuesAreLeast(t *testing.T) {
	for _, c := range drawnChains(3) {
		values, _, _ := stop.Best(c)
		for s, f := range values {
			pay, on := big.NewRat(int64(c.Pay[s]), 1), onward(c, s, values)
			if rat(f).Cmp(pay) < 0 || rat(f).Cmp(on) < 0 {
				t.Errorf("Best(%v) has %v in %d, less than %v or %v", c, f, s, pay, on)
			}
			if rat(f).Cmp(pay) > 0 && rat(f).Cmp(on) > 0 {
				t.Errorf("Best(%v) has %v in %d, more than %v and %v", c, f, s, pay, on)
			}
		}
	}
}

// P2.4: more Pay, or less Cost, makes no value less.
func TestMorePay(t *testing.T) {
	r := rand.New(rand.NewSource(4))
	for _, c := range drawnChains(4) {
		better := clone(c)
		s := r.Intn(len(c.Next))
		if r.Intn(2) == 0 {
			better.Pay[s] += r.Intn(api.MaxGain - c.Pay[s] + 1)
		} else {
			better.Cost[s] -= r.Intn(c.Cost[s] + 1)
		}
		before, _, _ := stop.Best(c)
		after, _, e := stop.Best(better)
		if e != api.OK {
			t.Fatalf("Best(%v): %d", better, e)
		}
		for s := range before {
			if rat(after[s]).Cmp(rat(before[s])) < 0 {
				t.Errorf("%v has %v, and %v less: %v", c, before, better, after)
			}
		}
	}
}

// P2.1: Check finds each value that is wrong, however little.
func TestCheckFindsWrongValues(t *testing.T) {
	for _, c := range drawnChains(5) {
		values, _, _ := stop.Best(c)
		for s, f := range values {
			for _, step := range []*big.Rat{big.NewRat(1, 128), big.NewRat(-1, 128), big.NewRat(1, 1), big.NewRat(-1000, 1)} {
				wrong := slices.Clone(values)
				wrong[s] = frac(step.Add(step, rat(f)))
				if e := stop.Check(c, wrong); e != api.ErrAnswer {
					t.Errorf("Check(%v, %v) = %d; Best has %v", c, wrong, e, values)
				}
			}
		}
	}
}

// P2.1: values of a sound rule that is not the best one are a wrong answer,
// and so are greater ones that also have the properties of P2.4.
func TestCheckExamples(t *testing.T) {
	cases := []struct {
		c      api.Chain
		values []api.Frac
		e      api.Errno
	}{
		{lift(), []api.Frac{whole(3), whole(5)}, api.OK},
		{lift(), []api.Frac{whole(1), whole(5)}, api.ErrAnswer},
		{lift(), []api.Frac{whole(4), whole(5)}, api.ErrAnswer},
		{lift(), []api.Frac{whole(5), whole(3)}, api.ErrAnswer},
		{circle(4, 4), []api.Frac{whole(4), whole(4)}, api.OK},
		{circle(4, 4), []api.Frac{whole(5), whole(5)}, api.ErrAnswer},
		{one(0, 0, 0), []api.Frac{whole(0)}, api.OK},
		{one(0, 1, 0), []api.Frac{whole(0)}, api.ErrAnswer},
		{one(0, 1000, 0), []api.Frac{whole(1000)}, api.OK},
		// The limits of fractions themselves are allowed.
		{one(0, 1, 0), []api.Frac{whole(1 << 40)}, api.ErrAnswer},
		{one(0, 1, 0), []api.Frac{whole(-1 << 40)}, api.ErrAnswer},
		{one(0, 1, 0), []api.Frac{{Num: 1, Den: 1 << 20}}, api.ErrAnswer},
		{one(0, 1, 0), []api.Frac{{Num: -1<<40 + 1, Den: 1 << 20}}, api.ErrAnswer},
		{one(0, 1, 0), []api.Frac{whole(1<<40 + 1)}, api.ErrArg},
		{one(0, 1, 0), []api.Frac{whole(-1<<40 - 1)}, api.ErrArg},
		{one(0, 1, 0), []api.Frac{{Num: 1, Den: 1<<20 + 1}}, api.ErrArg},
		{one(0, 1, 0), []api.Frac{whole(math.MinInt)}, api.ErrArg},
		{one(0, 1, 0), []api.Frac{whole(math.MaxInt)}, api.ErrArg},
		{one(0, 1, 0), []api.Frac{{Num: 1, Den: math.MaxInt}}, api.ErrArg},
		{one(0, 1, 0), []api.Frac{{Num: 1, Den: math.MinInt}}, api.ErrArg},
		// Fractions that are not valid, though they would be equal to the value.
		{one(0, 1, 0), []api.Frac{{Num: 2, Den: 2}}, api.ErrArg},
		{one(0, 1, 0), []api.Frac{{Num: -1, Den: -1}}, api.ErrArg},
		{one(0, 0, 0), []api.Frac{{Num: 0, Den: 2}}, api.ErrArg},
		{one(0, 0, 0), []api.Frac{{}}, api.ErrArg},
		{one(0, 1, 0), []api.Frac{{Num: 1, Den: 0}}, api.ErrArg},
		{one(0, 1, 0), []api.Frac{{Num: -3, Den: 6}}, api.ErrArg},
		// Lists of another length.
		{one(0, 1, 0), nil, api.ErrArg},
		{one(0, 1, 0), []api.Frac{}, api.ErrArg},
		{one(0, 1, 0), []api.Frac{whole(1), whole(0)}, api.ErrArg},
		{lift(), []api.Frac{whole(3)}, api.ErrArg},
		{lift(), make([]api.Frac, 100000), api.ErrArg},
		// ErrArg comes before ErrAnswer, whichever element has it.
		{lift(), []api.Frac{whole(4), {Num: 2, Den: 2}}, api.ErrArg},
		{lift(), []api.Frac{{Num: 2, Den: 2}, whole(4)}, api.ErrArg},
	}
	for _, c := range cases {
		if e := stop.Check(c.c, c.values); e != c.e {
			t.Errorf("Check(%v, %v) = %d, want %d", c.c, c.values, e, c.e)
		}
	}
}

// P2.1: lists that are not rules. ErrArg comes before ErrNone: no rule but a
// stop makes circle sound.
func TestWrongRules(t *testing.T) {
	long := make([]int, 100000)
	for i := range long {
		long[i] = i
	}
	for _, rule := range [][]int{
		{-1}, {2}, {0, 2}, {0, 0}, {1, 1}, {1, 0}, {0, 1, 2}, {0, 1, 1}, {-1, 0}, {math.MinInt}, {math.MaxInt},
		{0, math.MaxInt}, {math.MinInt, 0}, {0, 1, math.MinInt}, long,
	} {
		for _, c := range []api.Chain{lift(), circle(3, 4)} {
			if values, e := stop.Rule(c, rule); len(values) != 0 || e != api.ErrArg {
				t.Errorf("Rule(%v, %v) = %v, %d; want ErrArg", c, rule, values, e)
			}
		}
	}
}

// wrongChains are no chains, each for one reason.
func wrongChains() map[string]api.Chain {
	row := func(numbers ...int) []int { return numbers }
	chain := func(pay, cost []int, next ...[]int) api.Chain {
		return api.Chain{Next: next, Pay: pay, Cost: cost}
	}
	seven := chain(make([]int, 7), make([]int, 7))
	for range 7 {
		seven.Next = append(seven.Next, make([]int, 7))
	}
	return map[string]api.Chain{
		"no states":          {},
		"empty lists":        {Next: [][]int{}, Pay: []int{}, Cost: []int{}},
		"seven states":       seven,
		"many states":        chain(make([]int, 100000), make([]int, 100000), make([][]int, 100000)...),
		"no pay":             chain(nil, row(0), row(0)),
		"no cost":            chain(row(0), nil, row(0)),
		"no next":            chain(row(0), row(0)),
		"more pay":           chain(row(0, 0), row(0), row(0)),
		"more cost":          chain(row(0), row(0, 0), row(0)),
		"more next":          chain(row(0), row(0), row(0), row(0)),
		"less pay":           chain(row(0), row(0, 0), row(0, 0), row(0, 0)),
		"less cost":          chain(row(0, 0), row(0), row(0, 0), row(0, 0)),
		"nil numbers":        chain(row(0), row(0), nil),
		"more numbers":       chain(row(0), row(0), row(0, 0)),
		"less numbers":       chain(row(0, 0), row(0, 0), row(0, 0), row(0)),
		"very many numbers":  chain(row(0), row(0), make([]int, 100000)),
		"five":               chain(row(0), row(0), row(5)),
		"sum of five":        chain(row(0, 0), row(0, 0), row(0, 0), row(4, 1)),
		"negative number":    chain(row(0), row(0), row(-1)),
		"balanced numbers":   chain(row(0, 0), row(0, 0), row(5, -1), row(0, 0)),
		"least number":       chain(row(0), row(0), row(math.MinInt)),
		"greatest number":    chain(row(0), row(0), row(math.MaxInt)),
		"numbers that wrap":  chain(row(0, 0, 0), row(0, 0, 0), row(math.MaxInt, math.MaxInt, 4), row(0, 0, 0), row(0, 0, 0)),
		"negative pay":       chain(row(-1), row(0), row(0)),
		"pay 1001":           chain(row(1001), row(0), row(0)),
		"last pay 1001":      chain(row(0, 1001), row(0, 0), row(0, 0), row(0, 0)),
		"least pay":          chain(row(math.MinInt), row(0), row(0)),
		"greatest pay":       chain(row(math.MaxInt), row(0), row(0)),
		"negative cost":      chain(row(0), row(-1), row(0)),
		"cost 101":           chain(row(0), row(101), row(0)),
		"last cost 101":      chain(row(0, 0), row(0, 101), row(0, 0), row(0, 0)),
		"least cost":         chain(row(0), row(math.MinInt), row(0)),
		"greatest cost":      chain(row(0), row(math.MaxInt), row(0)),
		"negative last cost": chain(row(0, 0), row(0, -1), row(0, 0), row(0, 0)),
	}
}

// P2.1 and Rule 2: what is not a chain has ErrArg, whatever the other
// arguments are, and every other result is zero (Rule 4).
func TestWrongChains(t *testing.T) {
	for name, c := range wrongChains() {
		if values, rule, e := stop.Best(c); len(values) != 0 || len(rule) != 0 || e != api.ErrArg {
			t.Errorf("%s: Best = %v, %v, %d", name, values, rule, e)
		}
		for _, rule := range [][]int{nil, {0}, {0, 1}, {-1}, {7}} {
			if values, e := stop.Rule(c, rule); len(values) != 0 || e != api.ErrArg {
				t.Errorf("%s: Rule = %v, %d", name, values, e)
			}
		}
		for _, values := range [][]api.Frac{nil, {whole(0)}, {whole(0), whole(0)}, {{}}, make([]api.Frac, 7)} {
			if e := stop.Check(c, values); e != api.ErrArg {
				t.Errorf("%s: Check = %d", name, e)
			}
		}
	}
}

// Chains at the limits are accepted: 1 and 6 states, numbers 0 and 4, Pay 0
// and 1000, Cost 0 and 100.
func TestChainsAtLimits(t *testing.T) {
	six := circle(1000, 0, 1000, 0, 1000, 0)
	six.Cost = []int{100, 100, 100, 100, 100, 100}
	mixed := climb(6, 1000, 100)
	mixed.Next[5] = []int{1, 1, 1, 1, 0, 0}
	for _, c := range []api.Chain{one(0, 0, 0), one(4, 1000, 100), six, mixed} {
		if _, _, e := stop.Best(c); e != api.OK {
			t.Errorf("%v is a chain: %d", c, e)
		}
	}
	values, rule, e := stop.Best(six)
	if !slices.Equal(values, []api.Frac{whole(1000), whole(900), whole(1000), whole(900), whole(1000), whole(900)}) ||
		!slices.Equal(rule, []int{0, 2, 4}) || e != api.OK {
		t.Errorf("Best(%v) = %v, %v, %d", six, values, rule, e)
	}
}
