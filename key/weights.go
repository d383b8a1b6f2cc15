package key

import (
	"iter"
	"slices"

	"lectern/api"
	"lectern/weight"
)

const (
	fewLevels  = 3
	mostLevels = 4 // shifted
	mostWeight = 0xFFFF
)

func howMany(shifted bool) int {
	if shifted {
		return mostLevels
	}
	return fewLevels
}

// counted is an element of a text, with what stands ahead of it in mind: unless it counts, it has no weights on the first levels.
type counted struct {
	api.Element
	counts bool
}

func (c counted) first() int  { return c.whenCounted(c.P) }
func (c counted) second() int { return c.whenCounted(c.S) }
func (c counted) third() int  { return c.whenCounted(c.T) }

func (c counted) fourth() int {
	switch {
	case c.Var:
		return c.P
	case weight.Level(c.Element) == 0:
		return 0
	}
	return c.whenCounted(mostWeight)
}

func (c counted) whenCounted(w int) int {
	if c.counts {
		return w
	}
	return 0
}

// levelsOf are what tells an element's weight of a level, 0 if it has none, level by level.
func levelsOf(shifted bool) []func(counted) int {
	all := []func(counted) int{counted.first, counted.second, counted.third, counted.fourth}
	return all[:howMany(shifted)]
}

// countedOf tells which elements count: shifted, a Var one doesn't, nor what is behind it without a first weight of its own.
func countedOf(l []api.Element, shifted bool) []counted {
	out := make([]counted, 0, len(l))
	counts := true
	for _, x := range l {
		if weight.Level(x) == 1 {
			counts = !shifted || !x.Var
		}
		out = append(out, counted{x, counts})
	}
	return out
}

// weights tells the weights of elements, level by level, with the number of their level.
func weights(l []api.Element, shifted bool) iter.Seq2[int, int] {
	all := countedOf(l, shifted)
	return func(yield func(int, int) bool) {
		for i, of := range levelsOf(shifted) {
			for _, c := range all {
				if w := of(c); w != 0 && !yield(i+1, w) {
					return
				}
			}
		}
	}
}

// listed are all weights, a list a level.
func listed(all iter.Seq2[int, int], shifted bool) [][]int {
	out := make([][]int, howMany(shifted))
	for level, w := range all {
		out[level-1] = append(out[level-1], w)
	}
	for i, l := range out {
		out[i] = slices.Clip(l)
	}
	return out
}
