package locks

import (
	"slices"

	"turndown/api"
)

// A colouring has the depths that the keys have in one chamber; behind the
// last key they are 0.
type colouring [api.MaxKeys]int

// colourings lists the colourings of these keys with depths from 1 to d that
// are worth a try. Exchanging depths changes nothing that opens: of those that
// are alike but for this, only one is listed. Nor do two keys need the same
// depth while another depth is free.
func colourings(keys, d int) []colouring {
	list := []colouring{{}}
	for key := range keys {
		var longer []colouring
		for _, x := range list {
			for depth := 1; depth <= d; depth++ {
				x[key] = depth
				if x == x.renamed() {
					longer = append(longer, x)
				}
			}
		}
		list = longer
	}
	return slices.DeleteFunc(list, func(x colouring) bool { return slices.Max(x[:]) < min(keys, d) })
}

// renamed returns the colouring in which the depths are numbered from 1 in
// the order in which the keys first have them, with the same keys alike.
func (x colouring) renamed() colouring {
	var names [api.MaxDepths + 1]int
	used := 0
	for key, depth := range x {
		if depth != 0 && names[depth] == 0 {
			used++
			names[depth] = used
		}
		x[key] = names[depth]
	}
	return x
}
