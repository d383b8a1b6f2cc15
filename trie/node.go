package trie

import (
	"iter"
	"maps"
	"slices"
)

const none = -1 // the number of no entry

// node is where entries come to that begin with the same code points.
type node struct {
	number int // of the entry that ends here
	kids   map[rune]*node
}

func newNode() *node { return &node{number: none} }

// ends tells whether an entry has just the code points that lead here.
func (n *node) ends() bool { return n.number != none }

// grow is the node that l leads to from n, made if there was none.
func (n *node) grow(l []rune) *node {
	for _, r := range l {
		if n.kids == nil {
			n.kids = map[rune]*node{}
		}
		next := n.kids[r]
		if next == nil {
			next = newNode()
			n.kids[r] = next
		}
		n = next
	}
	return n
}

// numbers tells the entries from n on: a beginning ahead of what begins with it, and then by the next code point.
func (n *node) numbers() iter.Seq[int] {
	return func(yield func(int) bool) {
		if n.ends() && !yield(n.number) {
			return
		}
		for _, r := range slices.Sorted(maps.Keys(n.kids)) {
			for number := range n.kids[r].numbers() {
				if !yield(number) {
					return
				}
			}
		}
	}
}
