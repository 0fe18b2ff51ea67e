package code_test

import (
	"math/rand"
	"strings"
	"testing"

	"turndown/api"
	"turndown/code"
)

// allTaps calls a function with all pairs of taps.
func allTaps(call func(g, h int)) {
	for g := 1; g <= 15; g++ {
		for h := 1; h <= 15; h++ {
			call(g, h)
		}
	}
}

func wantCard(t *testing.T, message string, g, h int) string {
	t.Helper()
	card, e := code.Card(message, g, h)
	if want := cardOf(message, g, h); card != want || e != api.OK {
		t.Errorf("Card(%s, %d, %d) = %s, %d, want %s", message, g, h, card, e, want)
	}
	return card
}

func wantRead(t *testing.T, card string, g, h int, want string, distance int) {
	t.Helper()
	if message, n, e := code.Read(card, g, h); message != want || n != distance || e != api.OK {
		t.Errorf("Read(%s, %d, %d) = %s, %d, %d, want %s, %d", card, g, h, message, n, e, want, distance)
	}
}

// P6.3: the chapter's third example.
func TestExampleOfCards(t *testing.T) {
	if card := wantCard(t, "1", 7, 5); card != "11101100" {
		t.Errorf("Card = %s", card)
	}
	wantRead(t, "11101100", 7, 5, "1", 0)
	wantRead(t, "10101101", 7, 5, "1", 2)
	wantRead(t, "00000000", 7, 5, "0", 0)
}

// P6.3: the cards of all short messages, the empty one too, with all taps.
func TestAllShortMessages(t *testing.T) {
	allTaps(func(g, h int) {
		for length := range 6 {
			for _, message := range allTexts(length) {
				wantCard(t, message, g, h)
			}
		}
	})
}

// P6.3: the cards of messages of all lengths, up to the greatest one.
func TestDrawnMessages(t *testing.T) {
	r := rand.New(rand.NewSource(5))
	allTaps(func(g, h int) {
		for _, length := range []int{r.Intn(64), 63, 64} {
			message := drawnText(r, length)
			card := wantCard(t, message, g, h)
			wantRead(t, card, g, h, message, 0)
		}
	})
}

// P6.3: of all messages, the first one with the least distance is read. Cards
// of 6 characters are read as the empty message.
func TestAllShortCards(t *testing.T) {
	for length := range 3 {
		messages, texts := allTexts(length), allTexts(2*length+6)
		allTaps(func(g, h int) {
			cards := cardsOf(messages, g, h)
			for _, card := range texts {
				i, distance := nearest(cards, card)
				wantRead(t, card, g, h, messages[i], distance)
			}
		})
	}
}

// P6.3: so it is with longer cards.
func TestDrawnCards(t *testing.T) {
	r := rand.New(rand.NewSource(6))
	messages := make([][]string, 10)
	for length := range messages {
		messages[length] = allTexts(length)
	}
	allTaps(func(g, h int) {
		for length := 3 + r.Intn(2); length < len(messages); length += 1 + r.Intn(3) {
			cards := cardsOf(messages[length], g, h)
			for range 6 {
				card := drawnText(r, 2*length+6)
				i, distance := nearest(cards, card)
				wantRead(t, card, g, h, messages[length][i], distance)
			}
		}
	})
}

// changed returns the text with some characters changed.
func changed(r *rand.Rand, text string, count int) string {
	result := []byte(text)
	for _, i := range r.Perm(len(text))[:count] {
		result[i] ^= 1
	}
	return string(result)
}

// P6.3: and with the longest ones: drawn ones and those of messages that have
// been changed at few or many positions.
func TestLongCards(t *testing.T) {
	r := rand.New(rand.NewSource(7))
	for _, length := range []int{20, 40, 62, 63, 64, 64, 64} {
		for range 12 {
			g, h := 1+r.Intn(15), 1+r.Intn(15)
			card := cardOf(drawnText(r, length), g, h)
			for _, card := range []string{drawnText(r, len(card)), changed(r, card, r.Intn(12))} {
				message, distance := readFrom(card, g, h)
				wantRead(t, card, g, h, message, distance)
			}
		}
	}
}

// P6.3: where the characters 0 and 1 are at the same distance, the first one
// is read. (With these taps, each character of a message stands on the card
// twice, here once as 0 and once as 1.)
func TestFirstMessage(t *testing.T) {
	for length := range 65 {
		zeros := strings.Repeat("0", length)
		wantRead(t, strings.Repeat("01", length)+"000000", 1, 1, zeros, length)
		wantRead(t, "000000"+strings.Repeat("10", length), 8, 8, zeros, length)
		wantRead(t, "00"+strings.Repeat("01", length)+"1111", 2, 2, zeros, length+4)
	}
}

// P6.3: Free is the least distance of the cards of two different messages.
func TestFree(t *testing.T) {
	allTaps(func(g, h int) {
		free, e := code.Free(g, h)
		if want := freeOf(g, h); free != want || e != api.OK {
			t.Errorf("Free(%d, %d) = %d, %d, want %d", g, h, free, e, want)
		}
		for length := 1; length <= 5; length++ {
			cards := cardsOf(allTexts(length), g, h)
			for i, card := range cards[1:] {
				if _, d := nearest(cards[:i+1], card); d < free {
					t.Errorf("Free(%d, %d) = %d, but there is the distance %d", g, h, free, d)
				}
			}
		}
	})
	for _, want := range [][3]int{{7, 5, 5}, {5, 7, 5}, {1, 1, 2}, {8, 8, 2}, {15, 13, 6}} {
		if free, e := code.Free(want[0], want[1]); free != want[2] || e != api.OK {
			t.Errorf("Free(%d, %d) = %d, %d", want[0], want[1], free, e)
		}
	}
}
