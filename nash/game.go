package nash

import (
	"turndown/api"
	"turndown/frac"
)

// A side has in row i and column j of pay what it gains if it chooses its act
// i, and the other side the act j. Its own acts are the rows for both sides,
// so that they share their functions. Behind the acts all gains are 0.
type side struct {
	acts int
	pay  [api.MaxActs][api.MaxActs]int
}

// A game has the side that chooses rows at 0, and the other one at 1.
type game [2]side

// toGame also reports whether the tables are a game. It tests their sizes
// first, so that lists of any length are rejected without being read.
func toGame(a, b [][]int) (game, bool) {
	rows := len(a)
	if rows < 1 || rows > api.MaxActs || len(b) != rows {
		return game{}, false
	}
	columns := len(a[0])
	if columns < 1 || columns > api.MaxActs {
		return game{}, false
	}
	g := game{{acts: rows}, {acts: columns}}
	for i := range rows {
		if !isRow(a[i], columns) || !isRow(b[i], columns) {
			return game{}, false
		}
		for j := range columns {
			g[0].pay[i][j] = a[i][j]
			g[1].pay[j][i] = b[i][j]
		}
	}
	return g, true
}

func isRow(row []int, columns int) bool {
	if len(row) != columns {
		return false
	}
	for _, number := range row {
		if number < -api.MaxPay || number > api.MaxPay {
			return false
		}
	}
	return true
}

// toOpposed returns the game in which the second side loses what the first
// one gains. The negatives are allowed if the numbers themselves are.
func toOpposed(a [][]int) (game, bool) {
	g, ok := toGame(a, a)
	for j, row := range g[1].pay {
		for i, number := range row {
			g[1].pay[j][i] = -number
		}
	}
	return g, ok
}

// toPlay also reports whether a and b are a game, and x and y mixes for it.
func toPlay(a, b [][]int, x, y []api.Frac) (game, mix, mix, bool) {
	g, ok := toGame(a, b)
	if !ok {
		return game{}, mix{}, mix{}, false
	}
	first, firstOK := toMix(x, g[0].acts)
	second, secondOK := toMix(y, g[1].acts)
	return g, first, second, firstOK && secondOK
}

func (g game) isEquilibrium(x, y mix) bool {
	return g[0].isBest(x, y) && g[1].isBest(y, x)
}

// weight returns the gain of a mix against one of the other side, times the
// wholes of both. These are at most maxWhole, so that the result is an int.
func (s side) weight(own, other mix) int {
	total := 0
	for i, row := range s.pay {
		for j, number := range row {
			total += own.weights[i] * other.weights[j] * number
		}
	}
	return total
}

func (s side) gain(own, other mix) api.Frac {
	return frac.New(s.weight(own, other), own.whole*other.whole)
}

// isBest reports whether no mix gains more against the other one: if one did,
// so would one of its acts.
func (s side) isBest(own, other mix) bool {
	reached := s.weight(own, other)
	for i := range s.acts {
		if s.weight(always(i), other)*own.whole > reached {
			return false
		}
	}
	return true
}
