package nash

import (
	"turndown/api"
	"turndown/frac"
)

const maxWhole = 1 << 24 // the common denominator of a mix is at most this

// A mix chooses each act with the probability weight / whole. The weights add
// up to whole; behind the acts they are 0.
type mix struct {
	weights [api.MaxActs]int
	whole   int
}

// always returns the mix that chooses one act.
func always(act int) mix {
	m := mix{whole: 1}
	m.weights[act] = 1
	return m
}

// toMix also reports whether the list is a mix of these acts.
func toMix(list []api.Frac, acts int) (mix, bool) {
	if len(list) != acts {
		return mix{}, false
	}
	whole := 1
	for _, f := range list {
		// Greater numbers could make the multiple or the sum wrap around.
		if f.Num < 0 || f.Num > f.Den || f.Den > maxWhole || !frac.IsValid(f) {
			return mix{}, false
		}
		whole = frac.CommonMultiple(whole, f.Den)
		if whole > maxWhole {
			return mix{}, false
		}
	}
	m := mix{whole: whole}
	total := 0
	for i, f := range list {
		m.weights[i] = whole / f.Den * f.Num
		total += m.weights[i]
	}
	return m, total == whole
}

func (m mix) list(acts int) []api.Frac {
	result := make([]api.Frac, acts)
	for i := range result {
		result[i] = frac.New(m.weights[i], m.whole)
	}
	return result
}
