package tailor_test

import (
	"math"
	"slices"
	"strings"
	"sync"
	"testing"

	"lectern/api"
	"lectern/tailor"
	"lectern/weight"
)

// P10.2

func wantLookup(t testing.TB, s api.Source, l []rune, want ...api.Element) {
	t.Helper()
	if got := tailor.Lookup(s, l); !slices.Equal(got, want) {
		t.Errorf("Lookup of %q: %s, want %s", string(l), showElements(got), showElements(want))
	}
}

func TestLookup(t *testing.T) {
	s := small()
	a, c, h, ch, acute := elem(0x510, 0x20, 2), elem(0x530, 0x20, 2), elem(0x580, 0x20, 2), elem(0x535, 0x20, 2), elem(0, 0x24, 2)
	wantLookup(t, s, nil)
	wantLookup(t, s, []rune{})
	wantLookup(t, s, []rune("a"), a)
	wantLookup(t, s, []rune("aa"), a, a)
	wantLookup(t, s, []rune("\x00"))
	wantLookup(t, s, []rune("\x00a\x00\x00a\x00"), a, a)
	wantLookup(t, s, []rune(" a"), varied(0x201, 0x20, 2), a)
	wantLookup(t, s, []rune("a\u0301"), a, acute)
	wantLookup(t, s, []rune("\u00e6a"), append(slices.Clone(s.Entries[8].Elements), a)...)
	wantLookup(t, s, []rune("ch"), ch)
	wantLookup(t, s, []rune("cch"), c, ch)
	wantLookup(t, s, []rune("chh"), ch, h)
	wantLookup(t, s, []rune("c\u0301h"), c, acute, h) // simply: nothing is passed over
	wantLookup(t, s, []rune("hc"), h, c)
	wantLookup(t, s, []rune{0x4e00}, elem(0xfb40, 0x20, 2), elem(0xce00, 0, 0))
	wantLookup(t, s, []rune{'a', 0x17001, 'c'}, a, elem(0xfb00, 0x20, 2), elem(0x8001, 0, 0), c)
	wantLookup(t, s, []rune{0xe000}, elem(0xfbc1, 0x20, 2), elem(0xe000, 0, 0))
	wantLookup(t, s, []rune{0xe9}, weight.Implicit(0xe9, nil)...) // nothing is decomposed
	s.Ranges = nil
	wantLookup(t, s, []rune{0x4e00, 'a'}, elem(0xfbc0, 0x20, 2), elem(0xce00, 0, 0), a)
	wantLookup(t, api.Source{}, []rune{'a', 'b'}, elem(0xfbc0, 0x20, 2), elem(0x8061, 0, 0), elem(0xfbc0, 0x20, 2), elem(0x8062, 0, 0))
}

// The longest entry, however long it is, and none that only begins so.
func TestLookupOfTheLongest(t *testing.T) {
	one, two, five, six, of := elem(1, 1, 1), elem(2, 1, 1), elem(5, 1, 1), elem(6, 1, 1), elem(7, 1, 1)
	for _, l := range [][]api.Entry{
		{entry("a", one), entry("ab", two), entry("abcde", five), entry("bcdefg", six), entry("e", of)},
		{entry("e", of), entry("bcdefg", six), entry("abcde", five), entry("ab", two), entry("a", one)},
	} {
		s := source(l...)
		wantLookup(t, s, []rune("ab"), two)
		wantLookup(t, s, []rune("aba"), two, one)
		wantLookup(t, s, []rune("abcde"), five)
		wantLookup(t, s, []rune("abcdee"), five, of)
		wantLookup(t, s, []rune("abcd"), append([]api.Element{two}, append(weight.Implicit('c', nil), weight.Implicit('d', nil)...)...)...)
		wantLookup(t, s, []rune("aabcdefg"), append([]api.Element{one, five}, append(weight.Implicit('f', nil), weight.Implicit('g', nil)...)...)...)
		wantLookup(t, s, []rune("bcdefge"), six, of)
	}
}

// Of any sources, also such as trie.New refuses.
func TestLookupInAnySource(t *testing.T) {
	long := strings.Repeat("ab", 1000)
	many := slices.Repeat([]api.Element{elem(-1, -1, -1)}, 1000)
	s := source(
		api.Entry{Elements: []api.Element{elem(9, 9, 9)}},                // it is nowhere
		entry("a", elem(1, 1, 1)), entry("a", elem(2, 2, 2)), entry("a"), // the first one counts
		entry("b"), entry("b", elem(3, 3, 3)),
		entry(long, many...),
		api.Entry{Codes: []rune{-1}, Elements: []api.Element{elem(math.MaxInt, math.MinInt, 0)}},
		api.Entry{Codes: []rune{0xd800, 0x110000}, Elements: []api.Element{elem(4, 4, 4)}},
		api.Entry{Codes: []rune{0xfffd}, Elements: []api.Element{elem(5, 5, 5)}},
	)
	wantLookup(t, s, []rune("aba"), elem(1, 1, 1), elem(1, 1, 1))
	wantLookup(t, s, []rune(long+"a"), append(slices.Clone(many), elem(1, 1, 1))...)
	wantLookup(t, s, []rune{-1, 0xd800, 0x110000, 0xfffd}, elem(math.MaxInt, math.MinInt, 0), elem(4, 4, 4), elem(5, 5, 5))
	wantLookup(t, s, []rune{0x110000, -2, math.MinInt32, math.MaxInt32, 'a'}, elem(1, 1, 1)) // no weights by rule
	wantLookup(t, s, []rune{0xd800}, weight.Implicit(0xd800, nil)...)
	s.Ranges = []api.Implicit{{From: 'z', To: 'x', Base: 1}, {From: 'c', To: 'd', Base: -5, Whole: true}, {From: 'c', To: 'z', Base: 7}}
	wantLookup(t, s, []rune("cz"), append(weight.Implicit('c', s.Ranges), weight.Implicit('z', s.Ranges)...)...)
	for range 2 {
		wantLookup(t, source(api.Entry{Elements: []api.Element{elem(9, 9, 9)}}), []rune("a"), weight.Implicit('a', nil)...)
	}
}

func TestLookupOfLongLists(t *testing.T) {
	s := small()
	for number := range api.MaxEntries {
		s.Entries = append(s.Entries, entry("a"+string(rune(0x4e00+number)), elem(1, 1, 1)))
	}
	l := []rune(strings.Repeat("a\u4e01ch", 100_000))
	got := tailor.Lookup(s, l)
	want(t, "elements", len(got), 200_000)
	for i := 0; i < len(got); i += 2 {
		if got[i] != elem(1, 1, 1) || got[i+1] != elem(0x535, 0x20, 2) {
			t.Fatalf("Lookup: %s at %d", showElements(got[i:i+2]), i)
		}
	}
}

func TestLookedUpShareNothing(t *testing.T) {
	s := small()
	l := []rune("\u00e6ax")[:2]
	for range 2 {
		got := tailor.Lookup(s, l)
		want(t, "room behind the end", cap(got), len(got))
		wantList(t, "Lookup", got, []api.Element{elem(0x510, 0x20, 4), elem(0, 0x110, 4), elem(0x550, 0x20, 4), elem(0x510, 0x20, 2)})
		clear(got)
	}
	want(t, "the table", sameSource(s, small()), true)
	wantList(t, "the list", l[:3], []rune("\u00e6ax"))
}

func TestManyLookUpAtOnce(t *testing.T) {
	s := small()
	var all sync.WaitGroup
	for range 16 {
		all.Go(func() {
			for range 20 {
				wantLookup(t, s, []rune("cha"), elem(0x535, 0x20, 2), elem(0x510, 0x20, 2))
				got, next, e := tailor.Behind(s, s.Entries[2].Elements, 1)
				wantErr(t, "Behind", e, api.OK)
				wantList(t, "Behind", next, []api.Element{elem(0x511, 0x20, 2)})
				want(t, "b", got.Entries[4].Elements[0], elem(0x512, 0x20, 2))
			}
		})
	}
	all.Wait()
}
