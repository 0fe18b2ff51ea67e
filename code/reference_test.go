package code_test

import (
	"maps"
	"math/big"
	"math/rand"
	"slices"
	"strings"
)

// This file has slow computations, straight from the chapter's terms, which
// share no code with the package.

// allLists lists all lists of this length with numbers from 0 to most.
func allLists(length, most int) [][]int {
	lists := [][]int{nil}
	for range length {
		var longer [][]int
		for _, list := range lists {
			for number := range most + 1 {
				longer = append(longer, append(slices.Clone(list), number))
			}
		}
		lists = longer
	}
	return lists
}

// allTexts lists all texts of this length, in their order.
func allTexts(length int) []string {
	texts := []string{""}
	for range length {
		var longer []string
		for _, text := range texts {
			longer = append(longer, text+"0", text+"1")
		}
		texts = longer
	}
	return texts
}

func drawnText(r *rand.Rand, length int) string {
	text := make([]byte, length)
	for i := range text {
		text[i] = "01"[r.Intn(2)]
	}
	return string(text)
}

// drawnWeights lists weights of several kinds, as many as that.
func drawnWeights(r *rand.Rand, count int) [][]int {
	lists := make([][]int, 7)
	a, b := 1, 1
	for i := range count {
		lists[0] = append(lists[0], r.Intn(1<<30+1))
		lists[1] = append(lists[1], r.Intn(4))
		lists[2] = append(lists[2], 1+r.Intn(20))
		lists[3] = append(lists[3], 1<<r.Intn(31))
		lists[4] = append(lists[4], min(a, 1<<30))
		lists[5] = append(lists[5], 1<<min(i, 30))
		lists[6] = append(lists[6], r.Intn(2)<<30)
		a, b = b, a+b
	}
	r.Shuffle(count, func(i, j int) { lists[4][i], lists[4][j] = lists[4][j], lists[4][i] })
	return lists
}

// drawnLengths returns lengths that are full, as many as that: it begins with
// one word and splits one after the other. There must not be very many.
func drawnLengths(r *rand.Rand, count, most int) []int {
	lengths := []int{0}
	for len(lengths) < count {
		i := r.Intn(len(lengths))
		if r.Intn(2) == 0 {
			i = len(lengths) - 1
		}
		if lengths[i] < most {
			lengths[i]++
			lengths = append(lengths, lengths[i])
		}
	}
	r.Shuffle(count, func(i, j int) { lengths[i], lengths[j] = lengths[j], lengths[i] })
	return lengths
}

// kraft returns the sum of 2^-l.
func kraft(lengths []int) *big.Rat {
	sum := new(big.Rat)
	for _, length := range lengths {
		whole := new(big.Int).Lsh(big.NewInt(1), uint(length))
		sum.Add(sum, new(big.Rat).SetFrac(big.NewInt(1), whole))
	}
	return sum
}

func isPossible(lengths []int) bool { return kraft(lengths).Cmp(big.NewRat(1, 1)) <= 0 }

func isFull(lengths []int) bool { return kraft(lengths).Cmp(big.NewRat(1, 1)) == 0 }

func costOf(weights, lengths []int) int {
	sum := new(big.Int)
	for i, weight := range weights {
		sum.Add(sum, new(big.Int).Mul(big.NewInt(int64(weight)), big.NewInt(int64(lengths[i]))))
	}
	return int(sum.Int64())
}

// huffmanCost is the least cost without a limit: again and again, the two
// least weights become one.
func huffmanCost(weights []int) int {
	list, sum := slices.Clone(weights), 0
	for len(list) > 1 {
		slices.Sort(list)
		both := list[0] + list[1]
		sum += both
		list = append(list[2:], both)
	}
	return sum
}

// A tree is the rest of a tree of words: so many of its places at some height
// are free, and so many weights are still to be placed.
type tree struct{ places, left, limit int }

// treeCost returns the least cost with a limit: the weights are placed in
// descending order, level by level, and each weight that is not placed at a
// level becomes longer by a bit. It is -1 if they do not all find a place.
func treeCost(weights []int, limit int) int {
	sorted := slices.Sorted(slices.Values(weights))
	sums := []int{0}
	for _, weight := range sorted {
		sums = append(sums, sums[len(sums)-1]+weight)
	}
	return sumsCost(sums, tree{1, len(weights), limit}, map[tree]int{})
}

func sumsCost(sums []int, t tree, known map[tree]int) int {
	if t.left == 0 {
		return 0
	}
	t.places = min(t.places, t.left)
	if cost, ok := known[t]; ok {
		return cost
	}
	best := -1
	for placed := range t.places + 1 {
		rest, more := t.left-placed, 0
		if rest > 0 && (t.limit == 0 || placed == t.places) {
			continue
		}
		if rest > 0 {
			if more = sumsCost(sums, tree{2 * (t.places - placed), rest, t.limit - 1}, known); more < 0 {
				continue
			}
		}
		if cost := sums[rest] + more; best < 0 || cost < best {
			best = cost
		}
	}
	known[t] = best
	return best
}

// plusOne adds 1 to a binary number that has a 0, and keeps its length.
func plusOne(word string) string {
	last := strings.LastIndex(word, "0")
	return word[:last] + "1" + strings.Repeat("0", len(word)-last-1)
}

// wordsOf returns the code of possible lengths.
func wordsOf(lengths []int) []string {
	words, word, isFirst := make([]string, len(lengths)), "", true
	for length := range 33 {
		for symbol, l := range lengths {
			if l != length {
				continue
			}
			if !isFirst {
				word = plusOne(word)
			}
			word += strings.Repeat("0", length-len(word))
			words[symbol], isFirst = word, false
		}
	}
	return words
}

// decoded finds the symbols of whose words a text consists by trying all of
// them, and false if there are none. No word may be empty.
func decoded(words []string, text string) ([]int, bool) {
	var symbols []int
	for text != "" {
		symbol := slices.IndexFunc(words, func(word string) bool { return strings.HasPrefix(text, word) })
		if symbol < 0 {
			return nil, false
		}
		symbols, text = append(symbols, symbol), text[len(words[symbol]):]
	}
	return symbols, true
}

// cardOf returns the card of a message.
func cardOf(message string, g, h int) string {
	var card strings.Builder
	message += "000"
	for i := range message {
		for _, tap := range []int{g, h} {
			sum := 0
			for j := 0; j <= 3; j++ {
				if tap/(1<<j)%2 == 1 && i-j >= 0 && message[i-j] == '1' {
					sum++
				}
			}
			card.WriteByte("01"[sum%2])
		}
	}
	return card.String()
}

func distanceOf(s, t string) int {
	count := 0
	for i := range s {
		if s[i] != t[i] {
			count++
		}
	}
	return count
}

// cardsOf returns the cards of messages.
func cardsOf(messages []string, g, h int) []string {
	var cards []string
	for _, message := range messages {
		cards = append(cards, cardOf(message, g, h))
	}
	return cards
}

// nearest reads a card by comparing it with those of all messages. It returns
// the position of the first one that is nearest, and its distance.
func nearest(cards []string, card string) (int, int) {
	best := 0
	for i, other := range cards {
		if distanceOf(card, other) < distanceOf(card, cards[best]) {
			best = i
		}
	}
	return best, distanceOf(card, cards[best])
}

// readFrom reads a card from its beginning on. Of the messages that end in the
// same three characters, it goes on with the best one.
func readFrom(card string, g, h int) (string, int) {
	best := map[string]string{"000": ""}
	for i := range len(card)/2 - 3 {
		longer := map[string]string{}
		for _, message := range best {
			for _, character := range []string{"0", "1"} {
				next := message + character
				end := ("000" + next)[len(next):]
				if old, ok := longer[end]; !ok || isNearer(card[:2*i+2], next, old, g, h) {
					longer[end] = next
				}
			}
		}
		best = longer
	}
	ends := slices.Sorted(maps.Values(best))
	i, d := nearest(cardsOf(ends, g, h), card)
	return ends[i], d
}

// isNearer compares the beginnings of the cards of two messages with the
// beginning of a card.
func isNearer(beginning, message, other string, g, h int) bool {
	a := distanceOf(beginning, cardOf(message, g, h)[:len(beginning)])
	b := distanceOf(beginning, cardOf(other, g, h)[:len(beginning)])
	return a < b || a == b && message < other
}

// pairsOf returns what the last one of four characters adds to a card. The
// four are the bits of a number, the last one is its lowest bit.
func pairsOf(g, h int) [16]string {
	var pairs [16]string
	for i, four := range allTexts(4) {
		pairs[i] = cardOf(four, g, h)[6:8]
	}
	return pairs
}

// many is a distance that no two cards have.
const many = 1000

// freeOf returns the least distance of the cards of two different messages of
// the same length, from 1 to 64, by going on with both of them at once. Of
// the messages only the last three characters are kept, and whether they
// differ (1) or not (0).
func freeOf(g, h int) int {
	pairs, free := pairsOf(g, h), many
	best := nowhere()
	best[0][0][0] = 0
	for range 64 {
		longer := nowhere()
		for i := range 2 * 8 * 8 * 4 {
			differ, a, b := i>>8, i>>4&15, i&15
			next := &longer[differ|(a^b)&1][a&7][b&7]
			*next = min(*next, best[differ][a>>1][b>>1]+distanceOf(pairs[a], pairs[b]))
		}
		best = longer
		for i := range 8 * 8 {
			a, b, d := i>>3, i&7, best[1][i>>3][i&7]
			for range 3 {
				a, b = a<<1&15, b<<1&15
				d += distanceOf(pairs[a], pairs[b])
			}
			free = min(free, d)
		}
	}
	return free
}

func nowhere() [2][8][8]int {
	var d [2][8][8]int
	for i := range 2 * 8 * 8 {
		d[i>>6][i>>3&7][i&7] = many
	}
	return d
}
