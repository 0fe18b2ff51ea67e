package code_test

import (
	"math/rand"
	"slices"
	"strings"
	"testing"

	"turndown/api"
	"turndown/code"
)

// wantCode tests that Code returns the words of possible lengths, and that
// Code, Encode and Decode return ErrCode for other ones.
func wantCode(t *testing.T, lengths []int) {
	t.Helper()
	words, e := code.Code(lengths)
	if isPossible(lengths) {
		if want := wordsOf(lengths); !slices.Equal(words, want) || e != api.OK {
			t.Errorf("Code(%v) = %v, %d, want %v", lengths, words, e, want)
		}
		return
	}
	if len(words) != 0 || e != api.ErrCode {
		t.Errorf("Code(%v) = %v, %d", lengths, words, e)
	}
	for _, symbols := range [][]int{nil, {0}, {len(lengths) - 1, 0}} {
		if text, e := code.Encode(lengths, symbols); text != "" || e != api.ErrCode {
			t.Errorf("Encode(%v, %v) = %s, %d", lengths, symbols, text, e)
		}
	}
	for _, text := range []string{"", "0", "1", "0101"} {
		if symbols, e := code.Decode(lengths, text); len(symbols) != 0 || e != api.ErrCode {
			t.Errorf("Decode(%v, %s) = %v, %d", lengths, text, symbols, e)
		}
	}
}

// wantText tests that Encode returns the words of the symbols, and that Decode
// returns the symbols, if the text is not too long.
func wantText(t *testing.T, lengths, symbols []int) {
	t.Helper()
	words := wordsOf(lengths)
	var all []string
	for _, symbol := range symbols {
		all = append(all, words[symbol])
	}
	want := strings.Join(all, "")
	if text, e := code.Encode(lengths, symbols); text != want || e != api.OK {
		t.Errorf("Encode(%v, %v) = %s, %d, want %s", lengths, symbols, text, e, want)
	}
	got, e := code.Decode(lengths, want)
	if len(want) > 65536 {
		if len(got) != 0 || e != api.ErrArg {
			t.Errorf("Decode(%v) of %d characters = %v, %d", lengths, len(want), got, e)
		}
		return
	}
	if !slices.Equal(got, symbols) || e != api.OK {
		t.Errorf("Decode(%v, %s) = %v, %d, want %v", lengths, want, got, e, symbols)
	}
}

// wantDecoded tests that Decode returns symbols if there are any, and
// otherwise ErrCode.
func wantDecoded(t *testing.T, lengths []int, text string) {
	t.Helper()
	want, ok := decoded(wordsOf(lengths), text)
	wantError := api.OK
	if !ok {
		wantError = api.ErrCode
	}
	if got, e := code.Decode(lengths, text); !slices.Equal(got, want) || e != wantError {
		t.Errorf("Decode(%v, %s) = %v, %d, want %v, %d", lengths, text, got, e, want, wantError)
	}
}

// P6.2: the chapter's second example.
func TestExampleOfWords(t *testing.T) {
	lengths := []int{2, 1, 2}
	if words, e := code.Code(lengths); !slices.Equal(words, []string{"10", "0", "11"}) || e != api.OK {
		t.Errorf("Code = %v, %d", words, e)
	}
	if text, e := code.Encode(lengths, []int{0, 1, 2}); text != "10011" || e != api.OK {
		t.Errorf("Encode = %s, %d", text, e)
	}
	wantText(t, lengths, []int{0, 1, 2})
	wantDecoded(t, lengths, "101")
	wantCode(t, []int{1, 1, 1})
}

// P6.2: the words of all lengths of few symbols, possible or not, and the
// texts that consist of them, or do not.
func TestAllSmallLengths(t *testing.T) {
	var texts []string
	for length := range 8 {
		texts = append(texts, allTexts(length)...)
	}
	for count := 1; count <= 4; count++ {
		for _, lengths := range allLists(count, 4) {
			wantCode(t, lengths)
			if !isPossible(lengths) || slices.Min(lengths) == 0 {
				continue
			}
			for _, text := range texts {
				wantDecoded(t, lengths, text)
			}
			for _, symbols := range append(allLists(3, count-1), nil) {
				wantText(t, lengths, symbols)
			}
		}
	}
}

// P6.2: full lengths up to the greatest ones and of up to 64 symbols; and those
// of which the last one is shorter or longer, or which are one more or one
// fewer.
func TestDrawnLengths(t *testing.T) {
	r := rand.New(rand.NewSource(4))
	for round := range 300 {
		count := 2 + r.Intn(62)
		lengths := drawnLengths(r, count, 7+r.Intn(26))
		if !isFull(lengths) {
			t.Fatalf("%v is not full", lengths)
		}
		wantCode(t, lengths)
		wantCode(t, append(slices.Clone(lengths), 32))
		wantCode(t, lengths[1:])
		i := r.Intn(count)
		for _, change := range []int{-1, 1} {
			changed := slices.Clone(lengths)
			changed[i] = min(changed[i]+change, 32)
			wantCode(t, changed)
		}
		symbols := make([]int, r.Intn(100))
		for i := range symbols {
			symbols[i] = r.Intn(count)
		}
		wantText(t, lengths, symbols)
		wantDecoded(t, lengths[1:], drawnText(r, round))
	}
}

// P6.2: what is missing or too much by the least amount.
func TestLongWords(t *testing.T) {
	lengths := []int{}
	for length := 1; length <= 32; length++ {
		lengths = append(lengths, length)
	}
	wantCode(t, lengths)
	wantDecoded(t, lengths, strings.Repeat("1", 31))
	wantDecoded(t, lengths, strings.Repeat("1", 31)+"0")
	wantDecoded(t, lengths, strings.Repeat("1", 32))
	wantDecoded(t, lengths, strings.Repeat("1", 33))
	wantDecoded(t, lengths, strings.Repeat("1", 31)+"0"+strings.Repeat("1", 31)+"0")
	full := append(slices.Clone(lengths), 32)
	wantCode(t, full)
	wantDecoded(t, full, strings.Repeat("1", 64))
	wantDecoded(t, full, strings.Repeat("1", 63))
	wantCode(t, append(full, 32))
	wantCode(t, slices.Repeat([]int{32}, 64))
	wantCode(t, slices.Repeat([]int{6}, 64))
	wantCode(t, append(slices.Repeat([]int{6}, 63), 5))
	wantCode(t, append(slices.Repeat([]int{6}, 63), 7))
	wantText(t, slices.Repeat([]int{32}, 64), []int{63, 0, 1, 62})
}

// P6.2: a single symbol with the length 0 has the empty word; with another
// symbol beside it, there is no code.
func TestEmptyWord(t *testing.T) {
	if words, e := code.Code([]int{0}); !slices.Equal(words, []string{""}) || e != api.OK {
		t.Errorf("Code = %q, %d", words, e)
	}
	for count := range 4 {
		if text, e := code.Encode([]int{0}, make([]int, count)); text != "" || e != api.OK {
			t.Errorf("Encode = %s, %d", text, e)
		}
	}
	if symbols, e := code.Decode([]int{0}, ""); len(symbols) != 0 || e != api.OK {
		t.Errorf("Decode = %v, %d", symbols, e)
	}
	for _, text := range []string{"0", "1", "00", "01", strings.Repeat("0", 65536)} {
		if symbols, e := code.Decode([]int{0}, text); len(symbols) != 0 || e != api.ErrCode {
			t.Errorf("Decode = %v, %d", symbols, e)
		}
	}
	for _, lengths := range [][]int{{0, 0}, {0, 1}, {1, 0}, {32, 0}, {0, 32, 32}} {
		wantCode(t, lengths)
	}
}

// P6.2: a single symbol with another length has a word of zeros, and no
// symbols have the empty text.
func TestSingleSymbol(t *testing.T) {
	for length := 1; length <= 32; length++ {
		wantCode(t, []int{length})
		for count := range 4 {
			wantText(t, []int{length}, make([]int, count))
		}
		for size := range 70 {
			wantDecoded(t, []int{length}, strings.Repeat("0", size))
			wantDecoded(t, []int{length}, strings.Repeat("0", size)+"1")
		}
	}
}

// P6.2: 4096 symbols are encoded, and 65536 characters are decoded, but no
// more of them.
func TestLongTexts(t *testing.T) {
	for _, length := range []int{1, 15, 16, 17, 32} {
		symbols := make([]int, 4097)
		wantText(t, []int{length}, symbols[:4096])
		if text, e := code.Encode([]int{length}, symbols); text != "" || e != api.ErrArg {
			t.Errorf("Encode = %s, %d", text, e)
		}
	}
	text := strings.Repeat("01", 32768)
	if symbols, e := code.Decode([]int{1, 1}, text); len(symbols) != 65536 || e != api.OK {
		t.Errorf("Decode = %v, %d", symbols, e)
	}
	wantDecoded(t, []int{2, 2}, text)
	wantDecoded(t, []int{2, 3}, text[1:])
	wantDecoded(t, []int{2, 3}, text[:65535])
	for _, long := range []string{text + "0", text + "01", text + "x", strings.Repeat(text, 20)} {
		if symbols, e := code.Decode([]int{1, 1}, long); len(symbols) != 0 || e != api.ErrArg {
			t.Errorf("Decode = %v, %d", symbols, e)
		}
	}
}
