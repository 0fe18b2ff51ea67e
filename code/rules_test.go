package code_test

import (
	"fmt"
	"math"
	"slices"
	"strings"
	"testing"

	"turndown/api"
	"turndown/code"
)

// wrongLists are neither weights nor lengths, if the greatest number may be
// that one.
func wrongLists(most int) map[string][]int {
	last := slices.Repeat([]int{1}, 64)
	last[63] = most + 1
	return map[string][]int{
		"nil":             nil,
		"empty":           {},
		"65":              make([]int, 65),
		"very many":       make([]int, 100000),
		"65 wrong ones":   slices.Repeat([]int{-1}, 65),
		"-1":              {-1},
		"later -1":        {1, 1, -1},
		"too much":        {most + 1},
		"later too much":  {1, most + 1, 1},
		"last too much":   last,
		"least number":    {1, math.MinInt},
		"greatest number": {math.MaxInt, 1},
		"sum of zero":     {math.MinInt, math.MinInt},
		"32 bits":         {1 << 32, 1<<32 + 1},
	}
}

// outside returns numbers that are not from least to most.
func outside(least, most int) []int {
	return []int{least - 1, least - 2, most + 1, most + 2, 1 << 32, 1<<32 + least, math.MinInt, math.MinInt + 1, math.MaxInt}
}

// wantNoCost tests that Cost rejects these.
func wantNoCost(t *testing.T, name string, weights, lengths []int) {
	t.Helper()
	if n, e := code.Cost(weights, lengths); n != 0 || e != api.ErrArg {
		t.Errorf("%s: Cost = %d, %d", name, n, e)
	}
}

// P6.1, Rules 2 and 4: what are not weights, or not a limit, has ErrArg, also
// if there are too many symbols for the limit.
func TestWrongWeights(t *testing.T) {
	for name, weights := range wrongLists(api.MaxWeight) {
		for _, limit := range []int{0, 1, 5, 32, -1, 33, math.MinInt, math.MaxInt} {
			if l, n, e := code.Best(weights, limit); len(l) != 0 || n != 0 || e != api.ErrArg {
				t.Errorf("%s, %d: Best = %v, %d, %d", name, limit, l, n, e)
			}
		}
		for _, lengths := range [][]int{nil, {1}, {1, 1}, make([]int, len(weights)), {-1}} {
			wantNoCost(t, name, weights, lengths)
		}
	}
	for _, limit := range outside(0, api.MaxBits) {
		for _, weights := range [][]int{{1}, {1, 2, 3}, make([]int, 64)} {
			if l, n, e := code.Best(weights, limit); len(l) != 0 || n != 0 || e != api.ErrArg {
				t.Errorf("Best(%v, %d) = %v, %d, %d", weights, limit, l, n, e)
			}
		}
	}
}

// P6.1, P6.2, Rules 2 and 4: what are not lengths has ErrArg, and so has
// another number of them than there are weights.
func TestWrongLengths(t *testing.T) {
	for name, lengths := range wrongLists(api.MaxBits) {
		for count := range 66 {
			wantNoCost(t, name, make([]int, count), lengths)
		}
		if words, e := code.Code(lengths); len(words) != 0 || e != api.ErrArg {
			t.Errorf("%s: Code = %v, %d", name, words, e)
		}
		for _, symbols := range [][]int{nil, {0}, {-1}, make([]int, 4097)} {
			if text, e := code.Encode(lengths, symbols); text != "" || e != api.ErrArg {
				t.Errorf("%s: Encode = %s, %d", name, text, e)
			}
		}
		for _, text := range []string{"", "0", "x", "01"} {
			if symbols, e := code.Decode(lengths, text); len(symbols) != 0 || e != api.ErrArg {
				t.Errorf("%s: Decode = %v, %d", name, symbols, e)
			}
		}
	}
	for count := 1; count <= 64; count++ {
		wantNoCost(t, "one fewer", make([]int, count), make([]int, count-1))
		wantNoCost(t, "one more", make([]int, count), make([]int, count+1))
	}
}

// P6.2, Rule 2: symbols without a length and texts with other characters have
// ErrArg, also if the lengths are not possible.
func TestWrongSymbolsAndTexts(t *testing.T) {
	for _, lengths := range [][]int{{0}, {1, 1}, {2, 1, 2}, {1, 1, 1}, {0, 0}, {0, 1, 2}, make([]int, 64), slices.Repeat([]int{32}, 64)} {
		wrong := append(outside(0, len(lengths)-1), 65, 256)
		for _, symbol := range wrong {
			for _, symbols := range [][]int{{symbol}, {0, symbol}, {symbol, 0}, append(make([]int, 4095), symbol)} {
				if text, e := code.Encode(lengths, symbols); text != "" || e != api.ErrArg {
					t.Errorf("Encode(%v, %v) = %s, %d", lengths, symbols, text, e)
				}
			}
		}
		for _, symbols := range [][]int{make([]int, 4097), make([]int, 100000)} {
			if text, e := code.Encode(lengths, symbols); text != "" || e != api.ErrArg {
				t.Errorf("Encode(%v) of %d symbols = %s, %d", lengths, len(symbols), text, e)
			}
		}
		for _, text := range append(wrongTexts(), strings.Repeat("0", 65537), strings.Repeat("1", 200000)) {
			if symbols, e := code.Decode(lengths, text); len(symbols) != 0 || e != api.ErrArg {
				t.Errorf("Decode(%v, %s) = %v, %d", lengths, text, symbols, e)
			}
		}
	}
}

// wrongTexts are texts of few characters with others than 0 and 1.
func wrongTexts() []string {
	return []string{"2", "/", "x", " ", "-1", "0 ", " 0", "0\n", "0x1", "012", "1021", "201", "0000000000000x", "\x00", "\x00\x01", "\xff0", "\xb0\xb1", "٠", "０１", "００００００"}
}

// P6.3, Rules 2 and 4: what is not a message, and taps that are not from 1 to
// 15, have ErrArg.
func TestWrongMessages(t *testing.T) {
	for _, message := range append(wrongTexts(), strings.Repeat("0", 65), strings.Repeat("1", 100000), strings.Repeat("0", 63)+"x") {
		for _, tap := range []int{1, 7, 15, 0} {
			if card, e := code.Card(message, tap, 5); card != "" || e != api.ErrArg {
				t.Errorf("Card(%s, %d) = %s, %d", message, tap, card, e)
			}
		}
	}
	for _, wrong := range outside(1, 15) {
		for _, taps := range [][2]int{{wrong, 5}, {7, wrong}, {wrong, wrong}} {
			for _, message := range []string{"", "1", "x", strings.Repeat("0", 65)} {
				if card, e := code.Card(message, taps[0], taps[1]); card != "" || e != api.ErrArg {
					t.Errorf("Card(%s, %v) = %s, %d", message, taps, card, e)
				}
			}
			for _, card := range []string{"000000", "11101100", "x", ""} {
				wantNoMessage(t, card, taps[0], taps[1])
			}
			if n, e := code.Free(taps[0], taps[1]); n != 0 || e != api.ErrArg {
				t.Errorf("Free(%v) = %d, %d", taps, n, e)
			}
		}
	}
}

func wantNoMessage(t *testing.T, card string, g, h int) {
	t.Helper()
	if message, n, e := code.Read(card, g, h); message != "" || n != 0 || e != api.ErrArg {
		t.Errorf("Read(%s, %d, %d) = %s, %d, %d", card, g, h, message, n, e)
	}
}

// P6.3, Rule 4: cards of lengths that no message leads to, or with other
// characters, have ErrArg.
func TestWrongCards(t *testing.T) {
	for length := range 200 {
		card := strings.Repeat("0", length)
		if length%2 == 1 || length < 6 || length > 134 {
			wantNoMessage(t, card, 7, 5)
		} else {
			wantRead(t, card, 7, 5, strings.Repeat("0", length/2-3), 0)
		}
		for _, character := range []string{"2", "/", "x", "\x00", "\x01"} {
			wantNoMessage(t, card+character, 7, 5)
			wantNoMessage(t, character+card, 7, 5)
		}
	}
	for _, card := range append(wrongTexts(), "", strings.Repeat("01", 100000)) {
		wantNoMessage(t, card, 15, 1)
	}
}

// P1, P2: each function returns, for all arguments, and the same result
// whenever it is called.
func TestNoPanics(t *testing.T) {
	numbers := []int{math.MinInt, -1, 0, 1, 2, 15, 16, 32, 33, 64, 1 << 30, 1<<30 + 1, math.MaxInt}
	lists := [][]int{nil, {}, make([]int, 64), make([]int, 65), {2, 1, 2}, {1, 2, 3, 3}}
	for _, n := range numbers {
		lists = append(lists, []int{n}, []int{n, n}, []int{1, n}, []int{n, 2, 2, 1}, slices.Repeat([]int{n}, 64))
	}
	texts := append(wrongTexts(), "", "0", "1", "000000", "11101100", strings.Repeat("01", 64), strings.Repeat("1", 134), strings.Repeat("0", 136))
	var first []string
	for range 2 {
		var got []string
		for _, list := range lists {
			for _, other := range lists {
				got = append(got, listsSaid(list, other))
			}
			for _, text := range texts {
				got = append(got, fmt.Sprint(code.Decode(list, text)))
			}
		}
		for _, text := range texts {
			for _, g := range numbers {
				for _, h := range numbers {
					got = append(got, cardsSaid(text, g, h))
				}
			}
		}
		if first == nil {
			first = got
		}
		if !slices.Equal(got, first) {
			t.Error("the same calls have other results")
		}
	}
}

// listsSaid are the results for two lists, as a text.
func listsSaid(list, other []int) string {
	limit := 3
	if len(other) > 0 {
		limit = other[0]
	}
	lengths, n, e1 := code.Best(list, limit)
	m, e2 := code.Cost(list, other)
	words, e3 := code.Code(list)
	text, e4 := code.Encode(list, other)
	return fmt.Sprint(lengths, n, e1, m, e2, words, e3, text, e4)
}

// cardsSaid are the results for a text and taps, as a text.
func cardsSaid(text string, g, h int) string {
	card, e1 := code.Card(text, g, h)
	message, n, e2 := code.Read(text, g, h)
	free, e3 := code.Free(g, h)
	return fmt.Sprint(card, e1, message, n, e2, free, e3)
}

// Rule 5: no argument is changed, not even beyond its end, and results are new
// memory.
func TestResultsAreNew(t *testing.T) {
	weights, symbols := []int{4, 1, 2, 1, 9, 9}[:4], []int{3, 0, 1, 2, 9, 9}[:4]
	lengths := []int{1, 3, 2, 3, 9, 9}[:4]
	want := listsSaid(weights, lengths) + listsSaid(lengths, symbols)
	for range 2 {
		best, _, _ := code.Best(weights, 3)
		words, _ := code.Code(lengths)
		decoded, _ := code.Decode(lengths, "111010110")
		if !slices.Equal(best, []int{1, 3, 2, 3}) || len(words) != 4 || !slices.Equal(decoded, []int{3, 0, 2, 1}) {
			t.Errorf("Best = %v, Code = %v, Decode = %v", best, words, decoded)
		}
		clear(best[:cap(best)])
		clear(words[:cap(words)])
		clear(decoded[:cap(decoded)])
		if got := listsSaid(weights, lengths) + listsSaid(lengths, symbols); got != want {
			t.Errorf("first %s, then %s", want, got)
		}
	}
	for _, list := range [][]int{weights, symbols, lengths} {
		if !slices.Equal(list[4:6], []int{9, 9}) {
			t.Errorf("%v has been changed beyond its end", list[:6])
		}
	}
	if !slices.Equal(weights, []int{4, 1, 2, 1}) || !slices.Equal(symbols, []int{3, 0, 1, 2}) || !slices.Equal(lengths, []int{1, 3, 2, 3}) {
		t.Errorf("arguments have been changed: %v %v %v", weights, symbols, lengths)
	}
}
