package tailor

import (
	"slices"

	"lectern/api"
	"lectern/weight"
)

const none = -1 // the number of no entry

// step is by a code point, from a place of a finder.
type step struct {
	from int
	code rune
}

// finder tells by their Codes which entries there are, of any: package trie takes only those that may be, and tells no numbers.
type finder struct {
	steps map[step]int // the place that each step leads to; the first ones lead from 0
	ends  []int        // the number of the entry that ends at a place
}

// Lookup: P10.2.
func Lookup(s api.Source, l []rune) []api.Element { return lookup(s, finderOf(s.Entries), l) }

// lookup is Lookup by the finder of s's entries.
func lookup(s api.Source, f finder, l []rune) []api.Element {
	var out []api.Element
	for at := 0; at < len(l); {
		number, long := f.longest(l[at:])
		if number == none {
			out = append(out, weight.Implicit(l[at], s.Ranges)...)
			at++
			continue
		}
		out = append(out, s.Entries[number].Elements...)
		at += long
	}
	return slices.Clip(out)
}

func finderOf(l []api.Entry) finder {
	f := finder{steps: map[step]int{}, ends: []int{none}}
	for number, x := range l {
		f.put(x.Codes, number)
	}
	return f
}

// put puts an entry in, unless one that is alike is there already.
func (f *finder) put(codes []rune, number int) {
	place := 0
	for _, r := range codes {
		next, is := f.steps[step{place, r}]
		if !is {
			next = len(f.ends)
			f.steps[step{place, r}] = next
			f.ends = append(f.ends, none)
		}
		place = next
	}
	if f.ends[place] == none {
		f.ends[place] = number
	}
}

// longest is the number of the longest entry with at least one code point that l begins with, and how many it has.
func (f *finder) longest(l []rune) (number, long int) {
	number = none
	place := 0
	for i, r := range l {
		next, is := f.steps[step{place, r}]
		if !is {
			break
		}
		if place = next; f.ends[place] != none {
			number, long = f.ends[place], i+1
		}
	}
	return number, long
}
