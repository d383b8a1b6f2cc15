package elems

import (
	"slices"

	"lectern/api"
	"lectern/pack"
	"lectern/trie"
	"lectern/weight"
)

// state is how far pieces were found in a normalised list.
type state struct {
	entries *trie.Trie
	ranges  []api.Implicit
	codes   []rune
	classes []int // of codes; 0: a starter
	used    []bool
	from    int // all ahead of it are used
}

func newState(t *pack.Table, codes []rune) *state {
	s := &state{entries: t.Trie(), ranges: t.Ranges(), codes: codes, used: make([]bool, len(codes))}
	data := t.Norms()
	for _, r := range codes {
		s.classes = append(s.classes, data.Class(r))
	}
	return s
}

// next is the piece that begins with the first one that isn't used, and uses what is in it; false, if all are used.
func (s *state) next() (api.Piece, bool) {
	for s.from < len(s.codes) && s.used[s.from] {
		s.from++
	}
	if s.from == len(s.codes) {
		return api.Piece{}, false
	}
	p := s.find()
	for _, at := range p.At {
		s.used[at] = true
	}
	return p, true
}

// find is the piece that begins at s.from.
func (s *state) find() api.Piece {
	long, elements := s.entries.Longest(s.stretch())
	if long == 0 {
		return api.Piece{At: []int{s.from}, Elements: weight.Implicit(s.codes[s.from], s.ranges), Rule: true}
	}
	return s.across(long, elements)
}

// stretch is what isn't used from s.from on, up to the first that is used, as far as an entry can go.
func (s *state) stretch() []rune {
	end := s.from
	for end < min(len(s.codes), s.from+api.MaxSeq) && !s.used[end] {
		end++
	}
	return s.codes[s.from:end]
}

// across is the piece of the entry that has the next long code points, with those marks behind them that go into it: up to the first
// starter each one that isn't blocked, and with which what was matched so far is an entry, too.
//
// Marks stand in order of their classes, those of one class together: of all that were left only the last can block.
func (s *state) across(long int, elements []api.Element) api.Piece {
	var at []int
	for i := range long {
		at = append(at, s.from+i)
	}
	matched := slices.Clone(s.codes[s.from : s.from+long])
	left := 0 // the class of the mark that was left last
marks:
	for i := s.from + long; i < len(s.codes); i++ {
		if s.used[i] {
			continue
		}
		switch s.classes[i] {
		case 0:
			break marks
		case left:
			continue
		}
		longer := append(matched, s.codes[i])
		more, is := s.entries.Get(longer)
		if !is {
			left = s.classes[i]
			continue
		}
		at, matched, elements = append(at, i), longer, more
	}
	return api.Piece{At: slices.Clip(at), Elements: elements}
}
