package norm

import (
	"cmp"
	"iter"
	"slices"

	"lectern/norms"
)

// pieces tells l itself, piece by piece: each goes up to the next code point of class 0. The one who ranges may sort a piece while it is
// told: nothing of it is looked at again.
func pieces(n *norms.Norms, l []rune) iter.Seq[[]rune] {
	return func(yield func([]rune) bool) {
		from := 0
		for at := 1; at <= len(l); at++ {
			if at < len(l) && !n.Starter(l[at]) {
				continue
			}
			if !yield(l[from:at]) {
				return
			}
			from = at
		}
	}
}

// keyed is a value with what it is sorted by.
type keyed[T any, K cmp.Ordered] struct {
	value T
	key   K
}

// sortBy puts l in order of its keys, each of which is asked for once; those of one key stay as they stood. A piece may so be sorted
// with the code point of class 0 that it begins with: there is no lesser class, and no other one of that.
func sortBy[T any, K cmp.Ordered](l []T, key func(T) K) {
	if len(l) < 2 {
		return
	}
	rows := make([]keyed[T, K], len(l))
	for i, v := range l {
		rows[i] = keyed[T, K]{value: v, key: key(v)}
	}
	slices.SortStableFunc(rows, func(a, b keyed[T, K]) int { return cmp.Compare(a.key, b.key) })
	for i, row := range rows {
		l[i] = row.value
	}
}

// copied has no room behind its end: what is answered has nothing there.
func copied[T any](l []T) []T { return slices.Clip(slices.Clone(l)) }
