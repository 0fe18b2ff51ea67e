package code

import (
	"strings"

	"turndown/api"
)

const (
	tail    = 3         // zeros after a message, and characters that taps reach back
	states  = 1 << tail // what these characters can be
	windows = 2 * states
	maxTap  = windows - 1
)

func isTap(n int) bool { return n >= 1 && n <= maxTap }

// isCard tells whether a text can have been the card of a message.
func isCard(text string) bool {
	return len(text)%2 == 0 && len(text) >= 2*tail && isBinary(text, 2*(api.MaxMessage+tail))
}

// taps are g and h.
type taps [2]int

// A window holds a character of a message in its bit 0, and those before it
// in the further bits. A state is a window without its bit 0, that is, what
// is known of a window before the character comes.

// pair returns the two characters of a card for a window.
func (t taps) pair(window int) string {
	var pair [2]byte
	for i, tap := range t {
		pair[i] = '0' + parity(window&tap)
	}
	return string(pair[:])
}

// parity returns 1 if the number of bits that are set is odd, and otherwise 0.
func parity(window int) byte {
	sum := 0
	for bit := range tail + 1 {
		sum += window >> bit & 1
	}
	return byte(sum % 2)
}

func (t taps) card(message string) string {
	var card strings.Builder
	window := 0
	for _, character := range []byte(message + strings.Repeat("0", tail)) {
		window = window<<1%windows | int(character-'0')
		card.WriteString(t.pair(window))
	}
	return card.String()
}

func distance(s, t string) int {
	count := 0
	for i := range len(s) {
		if s[i] != t[i] {
			count++
		}
	}
	return count
}

// A path is a way from some position of a message to its end: the characters
// from there on, and how far their part of the card is from the given one.
type path struct {
	distance int
	message  [api.MaxMessage]byte
}

// read returns the first of the messages whose cards are next to the given
// one, and their distance.
func (t taps) read(card string) (string, int) {
	best := t.paths(card, 0)[0]
	return string(best.message[:len(card)/2-tail]), best.distance
}

// paths returns for each state at a position the path with the least
// distance, the first one of several. It goes backwards, since then of two
// paths with the same distance the one that begins with 0 is the first one.
func (t taps) paths(card string, position int) [states]path {
	length := len(card)/2 - tail
	var best [states]path
	for i := len(card)/2 - 1; i >= position; i-- {
		after := best
		for state := range states {
			best[state] = t.step(after, state<<1, card[2*i:2*i+2])
			if i >= length {
				continue
			}
			best[state].message[i] = '0'
			if one := t.step(after, state<<1|1, card[2*i:2*i+2]); one.distance < best[state].distance {
				best[state] = one
				best[state].message[i] = '1'
			}
		}
	}
	return best
}

// step returns the path that goes on after this window, with the distance at
// this window added.
func (t taps) step(after [states]path, window int, pair string) path {
	p := after[window%states]
	p.distance += distance(t.pair(window), pair)
	return p
}

// free returns the least distance of two messages' cards. The card of a sum
// of messages is the sum of their cards, so this is the least number of ones
// in the card of a message that is not zero. Zeros at its beginning and at its
// end add nothing to it, so it may begin with 1 and have the greatest length.
func (t taps) free() int {
	zeros := strings.Repeat("0", 2*(api.MaxMessage+tail))
	return t.step(t.paths(zeros, 1), 1, zeros[:2]).distance
}
