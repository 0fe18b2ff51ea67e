package code

import (
	"strings"

	"turndown/api"
)

// Limits of this chapter that api does not name.
const (
	maxSymbols = 4096
	maxText    = 65536
)

// areSymbols tells whether a list that is to be encoded is not too long and
// has only symbols of a code with that many ones.
func areSymbols(list []int, count int) bool {
	return len(list) <= maxSymbols && areFromZeroTo(count-1, list)
}

// isBinary tells whether a text has at most that many characters, all of them
// 0 or 1.
func isBinary(text string, most int) bool {
	return len(text) <= most && strings.Trim(text, "01") == ""
}

// words returns the code of possible lengths.
func words(lengths []int) []string {
	symbols := make([]int, len(lengths))
	for symbol := range symbols {
		symbols[symbol] = symbol
	}
	sortBy(symbols, func(symbol int) int { return lengths[symbol] })
	list := make([]string, len(lengths))
	next, length := 0, 0
	for _, symbol := range symbols {
		next <<= lengths[symbol] - length
		length = lengths[symbol]
		list[symbol] = binary(next, length)
		next++
	}
	return list
}

// binary returns the lowest bits of a number, the highest of them first.
func binary(number, length int) string {
	digits := make([]byte, length)
	for bit := range length {
		digits[length-1-bit] = '0' + byte(number>>bit&1)
	}
	return string(digits)
}

func encode(words []string, symbols []int) string {
	var text strings.Builder
	for _, symbol := range symbols {
		text.WriteString(words[symbol])
	}
	return text.String()
}

// decode returns the symbols of whose words the text consists, and false if
// it does not consist of words.
func decode(words []string, text string) ([]int, bool) {
	symbolOf := map[string]int{}
	for symbol, word := range words {
		symbolOf[word] = symbol
	}
	var symbols []int
	for text != "" {
		symbol, ok := first(symbolOf, text)
		if !ok {
			return nil, false
		}
		symbols = append(symbols, symbol)
		text = text[len(words[symbol]):]
	}
	return symbols, true
}

// first returns the symbol with whose word the text begins, which is not the
// empty word.
func first(symbolOf map[string]int, text string) (int, bool) {
	for before := range min(api.MaxBits, len(text)) {
		if symbol, ok := symbolOf[text[:before+1]]; ok {
			return symbol, true
		}
	}
	return 0, false
}
