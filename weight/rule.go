package weight

import (
	"slices"
	"unicode"

	"lectern/api"
)

// The bases of first primaries by rule; from firstOfRules on a primary is a rule's.
const (
	firstOfRules = 0xFB00 // of ranges that are Whole, up to the unified ones
	unified      = 0xFB40
	rareUnified  = 0xFB80
	inNoRange    = 0xFBC0
)

// A second primary has its high bit set, so that it is never 0, and the others from a code point.
const (
	lowBits = 15
	highBit = 1 << lowBits
)

// The lesser levels of a code point by rule, which the first element has alone.
const (
	ruleSecondary = 0x20
	ruleTertiary  = 2
)

// Ranges: P7.3.
func Ranges(l []api.Implicit) api.Errno {
	if len(l) > api.MaxRanges {
		return api.ErrLong
	}
	least := rune(0)
	for _, x := range l {
		if x.From < least || x.From > x.To || x.To > unicode.MaxRune || !baseMayBe(x) {
			return api.ErrImpl
		}
		least = x.To + 1
	}
	return api.OK
}

// Implicit: P7.4.
func Implicit(r rune, l []api.Implicit) []api.Element {
	if r < 0 || r > unicode.MaxRune {
		return nil
	}
	first, second := primaries(r, rangeOf(r, l))
	return []api.Element{{P: first, S: ruleSecondary, T: ruleTertiary}, {P: second}}
}

// Unified: P7.5.
func Unified() []api.Implicit {
	return []api.Implicit{
		{From: 0x3400, To: 0x4DB5, Base: rareUnified},
		{From: 0x4E00, To: 0x9FD5, Base: unified},
		{From: 0x17000, To: 0x187EC, Base: firstOfRules, Whole: true},
		{From: 0x20000, To: 0x2A6D6, Base: rareUnified},
	}
}

// baseMayBe looks at x's Base, and at how many code points may share it; x's ends may be.
func baseMayBe(x api.Implicit) bool {
	if x.Whole {
		return x.Base >= firstOfRules && x.Base < unified && x.To-x.From < highBit
	}
	return x.Base == unified || x.Base == rareUnified
}

// rangeOf is the first range that holds r, or else one that stands for all code points that lie in none.
func rangeOf(r rune, l []api.Implicit) api.Implicit {
	at := slices.IndexFunc(l, func(x api.Implicit) bool { return x.From <= r && r <= x.To })
	if at < 0 {
		return api.Implicit{Base: inNoRange}
	}
	return l[at]
}

// primaries are the two of a code point in x. The place in a range that Ranges refuses may wrap, as runes do.
func primaries(r rune, x api.Implicit) (int, int) {
	if x.Whole {
		return x.Base, int(r-x.From) | highBit
	}
	return x.Base + int(r>>lowBits), int(r)&(highBit-1) | highBit
}
