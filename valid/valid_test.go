package valid_test

import (
	"cmp"
	"math"
	"slices"
	"strconv"
	"strings"
	"testing"

	"lectern/api"
	"lectern/norms"
	"lectern/table"
	"lectern/valid"
	"lectern/weight"
)

func want[T comparable](t testing.TB, what string, got, want T) {
	t.Helper()
	if got != want {
		t.Errorf("%s: %v, want %v", what, got, want)
	}
}

func elem(p, s, t int) api.Element { return api.Element{P: p, S: s, T: t} }

func varied(p, s, t int) api.Element { return api.Element{P: p, S: s, T: t, Var: true} }

func entry(codes string, l ...api.Element) api.Entry {
	return api.Entry{Codes: []rune(codes), Elements: l}
}

func source(l ...api.Entry) api.Source {
	return api.Source{Version: "1", Ranges: weight.Unified(), Entries: l}
}

func data(t testing.TB) *norms.Norms {
	t.Helper()
	n, e := norms.Load(norms.Small())
	if e != api.OK {
		t.Fatal(e)
	}
	return n
}

// noData are data that norms did not make: under them each code point stays as it is, and is a Starter.
func noData() []*norms.Norms { return []*norms.Norms{nil, {}, new(norms.Norms)} }

func showElements(l []api.Element) string {
	s := ""
	for _, x := range l {
		s += weight.Show(x)
	}
	return s
}

func showSource(s api.Source) string {
	out := "version " + strconv.Quote(s.Version)
	for _, x := range s.Entries {
		out += "\n" + table.Show(x.Codes) + " ; " + showElements(x.Elements)
	}
	return out[:min(len(out), 2000)]
}

func sameEntry(a, b api.Entry) bool {
	return slices.Equal(a.Codes, b.Codes) && slices.Equal(a.Elements, b.Elements)
}

func sameSource(a, b api.Source) bool {
	return a.Version == b.Version && slices.Equal(a.Ranges, b.Ranges) && slices.EqualFunc(a.Entries, b.Entries, sameEntry)
}

// cloned shares nothing with s.
func cloned(s api.Source) api.Source {
	out := api.Source{Version: s.Version, Ranges: slices.Clone(s.Ranges)}
	for _, x := range s.Entries {
		out.Entries = append(out.Entries, api.Entry{Codes: slices.Clone(x.Codes), Elements: slices.Clone(x.Elements)})
	}
	return out
}

func wantCheckBy(t testing.TB, n *norms.Norms, what string, s api.Source, place int, err api.Errno) {
	t.Helper()
	was := cloned(s)
	if at, e := valid.Check(n, s); at != place || e != err {
		t.Errorf("Check of %s: place %d, error %d; want place %d, error %d\n%s", what, at, e, place, err, showSource(s))
	}
	want(t, "what was given stays", sameSource(s, was), true)
}

// wantCheck is of a source under the small data.
func wantCheck(t testing.TB, what string, s api.Source, place int, err api.Errno) {
	t.Helper()
	wantCheckBy(t, data(t), what, s, place, err)
}

// wantWell is of a source that is well formed, whatever the order of its entries.
func wantWell(t testing.TB, what string, l ...api.Entry) {
	t.Helper()
	s := source(l...)
	wantCheck(t, what, s, 0, api.OK)
	slices.Reverse(s.Entries)
	wantCheck(t, what+", backwards", s, 0, api.OK)
}

// The chapter's examples.

func TestExamples(t *testing.T) {
	wantCheck(t, "U+00E9", source(entry("a"), entry("\u00e9", elem(1, 0x20, 2))), 1, api.ErrNormal)
	a, acute := entry("a", elem(1, 0x20, 2)), entry("\u0301", elem(0, 0x24, 2))
	long, middle := entry("a\u0301\u0302", elem(3, 0x20, 2)), entry("a\u0301", elem(2, 0x20, 2))
	wantCheck(t, "a contraction that lacks another one", source(a, acute, long), 2, api.ErrPrefix)
	wantWell(t, "both", a, acute, long, middle)
}

// P11.1: the version

func TestVersions(t *testing.T) {
	for _, s := range []string{"1", "small-1", "!", "~", "#", "@;#&", strings.Repeat("v", 31), strings.Repeat("v", 32), "!~" + strings.Repeat("9", 30)} {
		wantCheck(t, "a version", api.Source{Version: s}, 0, api.OK)
	}
	for _, s := range []string{
		"", " ", "a b", " a", "a ", "\x7f", "a\x7f", "\x00", "\t", "a\n", "\x1f", "\u00e9", "a\u00e9", "\x80", "\xff", "a\xff",
		strings.Repeat("v", 33), strings.Repeat("v", 100), strings.Repeat("\u00e9", 16), strings.Repeat("v", 31) + " ", strings.Repeat("v", 1_000_000),
	} {
		wantCheck(t, "no version", api.Source{Version: s}, 0, api.ErrVersion)
	}
	for b := range 256 {
		e := api.ErrVersion
		if b >= 33 && b <= 126 {
			e = api.OK
		}
		for _, s := range []string{string([]byte{byte(b)}), string([]byte{'a', byte(b)}), string([]byte{byte(b), 'a'})} {
			wantCheck(t, "a version of one byte", api.Source{Version: s}, 0, e)
		}
	}
}

// P11.1: the ranges and the list, each ahead of what comes behind

func TestRanges(t *testing.T) {
	twisted := []api.Implicit{{From: 2, To: 1, Base: 0xfb40}}
	for what, x := range map[string]struct {
		l []api.Implicit
		e api.Errno
	}{
		"none":       {nil, api.OK},
		"an empty l": {[]api.Implicit{}, api.OK},
		"the usual":  {weight.Unified(), api.OK},
		"twisted":    {twisted, api.ErrImpl},
		"no base":    {[]api.Implicit{{From: 1, To: 2}}, api.ErrImpl},
		"too many":   {slices.Repeat(twisted, 101), api.ErrLong},
		"overlapped": {[]api.Implicit{{From: 1, To: 5, Base: 0xfb40}, {From: 5, To: 6, Base: 0xfb40}}, api.ErrImpl},
	} {
		s := source(entry("a", elem(1, 0x20, 2)))
		s.Ranges = x.l
		wantCheck(t, "ranges: "+what, s, 0, x.e)
		if x.e != api.OK {
			s.Entries = append(s.Entries, s.Entries[0], api.Entry{})
			wantCheck(t, "ranges, no list: "+what, s, 0, x.e)
			s.Version = ""
			wantCheck(t, "ranges, no version: "+what, s, 0, api.ErrVersion)
		}
	}
}

func many(n int) []api.Entry {
	var out []api.Entry
	for i := range n {
		out = append(out, entry(string(rune(0x5000+i)), elem(0x10+i, 0x20, 2)))
	}
	return out
}

func TestLists(t *testing.T) {
	a, b := entry("a", elem(1, 0x20, 2)), entry("b", elem(2, 0x20, 2))
	for what, x := range map[string]struct {
		place int
		e     api.Errno
		l     []api.Entry
	}{
		"none":                    {0, api.OK, nil},
		"an empty one":            {0, api.OK, []api.Entry{}},
		"one":                     {0, api.OK, []api.Entry{a}},
		"no elements":             {0, api.OK, []api.Entry{a, entry("b")}},
		"as many as may be":       {0, api.OK, many(4000)},
		"too many":                {0, api.ErrLong, many(4001)},
		"no code points":          {1, api.ErrSeq, []api.Entry{a, {}, b}},
		"eight code points":       {0, api.OK, []api.Entry{a, entry("abcdefgh")}},
		"nine code points":        {2, api.ErrSeq, []api.Entry{a, b, entry("abcdefghi")}},
		"a surrogate":             {1, api.ErrSeq, []api.Entry{a, {Codes: []rune{0xd800}}}},
		"above all":               {1, api.ErrSeq, []api.Entry{a, {Codes: []rune{'a', 0x110000}}}},
		"below 0":                 {0, api.ErrSeq, []api.Entry{{Codes: []rune{-1}}}},
		"sixteen elements":        {0, api.OK, []api.Entry{a, entry("b", slices.Repeat(b.Elements, 16)...)}},
		"seventeen elements":      {1, api.ErrLong, []api.Entry{a, entry("b", slices.Repeat(b.Elements, 17)...)}},
		"a weight that isn't":     {1, api.ErrWeight, []api.Entry{a, entry("b", elem(1, 0, 2))}},
		"a weight by rule":        {1, api.ErrWeight, []api.Entry{a, entry("b", elem(0xfb00, 0x20, 2))}},
		"a variable one of none":  {0, api.ErrWeight, []api.Entry{entry("b", varied(0, 0x40, 2)), a}},
		"twins":                   {2, api.ErrTwin, []api.Entry{a, b, a, b}},
		"twins with two elements": {1, api.ErrTwin, []api.Entry{a, entry("a", elem(2, 0x20, 2))}},
	} {
		wantCheck(t, "a list: "+what, source(x.l...), x.place, x.e)
		for _, n := range noData() {
			wantCheckBy(t, n, "without data, a list: "+what, source(x.l...), x.place, x.e)
		}
	}
}

// wrong are entries by what is wrong with them, each ahead of those that a check behind finds.
func wrong() []struct {
	e api.Errno
	x api.Entry
} {
	return []struct {
		e api.Errno
		x api.Entry
	}{
		{api.ErrSeq, entry("")},
		{api.ErrNormal, entry("\u00c0", elem(0x100, 0x20, 2))},
		{api.ErrOrder, entry("\u0328", elem(0, 0x20, 2))},
		{api.ErrVar, entry("-", varied(0x100, 0x20, 2))},
	}
}

// Where several things are wrong the first check counts, wherever the entry stands.
func TestChecksOneByOne(t *testing.T) {
	a := entry("a", elem(0x100, 0x20, 2))
	l := wrong()
	for i, x := range l {
		wantCheck(t, "one alone", source(a, x.x), 1, x.e)
		wantCheck(t, "one alone, in front", source(x.x, a), 0, x.e)
		for _, y := range l[i+1:] {
			wantCheck(t, "two", source(a, x.x, y.x), 1, x.e)
			wantCheck(t, "two, the first one behind", source(y.x, a, x.x), 2, x.e)
		}
	}
	prefix := entry("abc\u0301", elem(0x100, 0x20, 2))
	wantCheck(t, "no prefix, and not above", source(l[2].x, a, prefix), 2, api.ErrPrefix)
	wantCheck(t, "no prefix, not below", source(a, l[3].x, prefix), 2, api.ErrPrefix)
	wantCheck(t, "no prefix, no weight", source(prefix, entry("b", elem(1, 0, 0))), 1, api.ErrWeight)
	// These two are found by one check, entry by entry.
	wantCheck(t, "no prefix, not normal", source(a, prefix, l[1].x), 1, api.ErrPrefix)
	wantCheck(t, "not normal, no prefix", source(a, l[1].x, prefix), 1, api.ErrNormal)
	wantCheck(t, "both at once", source(a, entry("a\u00e9\u0301", elem(0x100, 0x20, 2))), 1, api.ErrNormal)
}

// P11.1: ErrNormal

func TestNormal(t *testing.T) {
	for _, s := range []string{"a", "\u0301", "a\u0301", "ab", "\u1100\u1161", "\u1100", "\u00e6", "\u0301\u0301", "a\u0323\u0301", "\u0323\u0301", "\u0301a\u0323", "\u4e00", "\x00", "\U0010ffff"} {
		l := []api.Entry{entry(s, elem(1, 0x20, 2))}
		if r := []rune(s); len(r) > 2 { // what it goes on from
			l = append(l, entry(string(r[:len(r)-1])))
		}
		wantWell(t, "what is normalised", l...)
	}
	for _, s := range []string{
		"\u00e9", "\u1ead", "\u212b", "\u2126", "\u0344", "\uac00", "\uac01", "\ud7a3", // each comes to others
		"\u0301\u0323", "a\u0301\u0323", "a\u0302\u0338b", // marks that stand in no order
		"a\u00e9", "\u00e9a", "ab\u00e9", "a\uac00", "\u00e0\u00e0\u00e0\u00e0\u00e0\u00e0\u00e0\u00e0",
	} {
		wantCheck(t, "what is not normalised", source(entry("a"), entry("b"), entry(s, elem(1, 0x20, 2))), 2, api.ErrNormal)
		for _, n := range noData() {
			wantCheckBy(t, n, "what no data change", source(entry("a"), entry("b"), entry(s, elem(1, 0x20, 2))), 0, api.OK)
		}
	}
}

// P11.1: ErrPrefix

func TestPrefix(t *testing.T) {
	entries := func(l ...string) []api.Entry {
		var out []api.Entry
		for _, s := range l {
			out = append(out, entry(s, elem(1, 0x20, 2)))
		}
		return out
	}
	for _, l := range [][]string{
		{"\u0301"}, {"a\u0301"}, {"\u0301\u0301"}, {"ab"}, {"abc"}, {"abcdefgh"}, {"a\u0301b"}, {"a\u0323\u0301b"}, {"\u0301ab"},
		{"ab\u0301", "ab"}, {"a\u0323\u0301", "a\u0323"}, {"\u0323\u0301\u0301", "\u0323\u0301"},
		{"abcdefg\u0301", "abcdefg"}, {"ab\u0323\u0301", "ab\u0323", "ab"}, {"a\u0301b\u0301", "a\u0301b"},
		{"a\u0323\u0323\u0323\u0323\u0301", "a\u0323\u0323\u0323\u0323", "a\u0323\u0323\u0323", "a\u0323\u0323", "a\u0323"},
	} {
		wantWell(t, "with its prefixes", entries(l...)...)
	}
	for _, x := range []struct {
		place int
		l     []string
	}{
		{0, []string{"ab\u0301"}},
		{0, []string{"ab\u0301", "a", "b", "\u0301", "b\u0301", "a\u0301", "abc"}},
		{1, []string{"a", "a\u0323\u0301"}},
		{1, []string{"a\u0323", "\u0323\u0301\u0301"}},
		{0, []string{"ab\u0323\u0301", "ab"}},
		{1, []string{"ab\u0323\u0301", "ab\u0323", "ba"}},
		{2, []string{"a", "ab", "abcdefg\u0301", "abcdef"}},
		{0, []string{"ab\u0301", "ac\u0301", "a"}},
		{1, []string{"ab\u0301", "ac\u0301", "ab"}},
		{0, []string{"\u0323\u0301\u0301"}},
	} {
		wantCheck(t, "without one of its prefixes", source(entries(x.l...)...), x.place, api.ErrPrefix)
		for _, n := range noData() {
			wantCheckBy(t, n, "what has no marks", source(entries(x.l...)...), 0, api.OK)
		}
	}
	// The prefix needs no elements, and counts wherever it stands.
	wantWell(t, "an ignored prefix", entry("ab"), entry("ab\u0301", elem(1, 0x20, 2)))
}

// P11.1: ErrOrder

func TestSecondariesAbove(t *testing.T) {
	a, b := entry("a", elem(1, 0x20, 2)), entry("b", elem(2, 0x30, 2))
	wantWell(t, "above", a, b, entry("\u0301", elem(0, 0x31, 2)))
	wantWell(t, "greatest", a, entry("b", elem(2, 0x1fe, 2)), entry("\u0301", elem(0, 0x1ff, 2)))
	wantCheck(t, "as great", source(a, b, entry("\u0301", elem(0, 0x30, 2))), 2, api.ErrOrder)
	wantCheck(t, "below", source(a, b, entry("\u0301", elem(0, 0x2f, 2))), 2, api.ErrOrder)
	wantCheck(t, "what is greater stands behind", source(entry("\u0301", elem(0, 0x30, 2)), a, b), 0, api.ErrOrder)
	wantCheck(t, "of variable ones", source(entry("-", varied(1, 0x30, 2)), entry("\u0301", elem(0, 0x30, 2))), 1, api.ErrOrder)
	wantWell(t, "above variable ones", entry("-", varied(1, 0x30, 2)), entry("\u0301", elem(0, 0x31, 2)))
	wantCheck(t, "within an entry", source(entry("ae", elem(2, 0x50, 2), elem(0, 0x50, 2))), 0, api.ErrOrder)
	wantWell(t, "above within an entry", entry("ae", elem(2, 0x50, 2), elem(0, 0x51, 2)))
	wantCheck(t, "the first of two", source(a, entry("\u0301", elem(0, 0x29, 2)), b, entry("\u0302", elem(0, 0x29, 2))), 1, api.ErrOrder)
	wantCheck(t, "the second of two", source(a, entry("\u0301", elem(0, 0x31, 2)), b, entry("\u0302", elem(0, 0x29, 2))), 3, api.ErrOrder)
	wantCheck(t, "behind another element", source(a, b, entry("\u0301", elem(0, 0x31, 2), elem(0, 0x30, 2))), 2, api.ErrOrder)
	wantCheck(t, "behind one of Level 0", source(b, entry("\u0301", elem(0, 0, 0), elem(0, 0x30, 2))), 1, api.ErrOrder)
	// Those of Level 2 are not held against one another.
	wantWell(t, "of Level 2", entry("\u0301", elem(0, 0x21, 2)), entry("\u0302", elem(0, 0x21, 2)), entry("\u0303", elem(0, 0x1ff, 2)))
	// The third weight doesn't count for them.
	wantWell(t, "a small third weight", entry("a", elem(1, 0x20, 0x3f)), entry("\u0301", elem(0, 0x21, 1)))
}

func TestTertiariesAbove(t *testing.T) {
	a, b := entry("a", elem(1, 0x20, 2)), entry("b", elem(2, 0x20, 8))
	wantWell(t, "above", a, b, entry("\u0301", elem(0, 0, 9)))
	wantWell(t, "greatest", a, entry("b", elem(2, 0x20, 0x3e)), entry("\u0301", elem(0, 0, 0x3f)))
	wantCheck(t, "as great", source(a, b, entry("\u0301", elem(0, 0, 8))), 2, api.ErrOrder)
	wantCheck(t, "below", source(a, b, entry("\u0301", elem(0, 0, 7))), 2, api.ErrOrder)
	wantCheck(t, "what is greater stands behind", source(entry("\u0301", elem(0, 0, 8)), a, b), 0, api.ErrOrder)
	wantCheck(t, "of variable ones", source(entry("-", varied(1, 0x20, 8)), entry("\u0301", elem(0, 0, 8))), 1, api.ErrOrder)
	mark := entry("\u0302", elem(0, 0x30, 0x10))
	wantWell(t, "above one of Level 2", a, mark, entry("\u0301", elem(0, 0, 0x11)))
	wantCheck(t, "as great as one of Level 2", source(a, mark, entry("\u0301", elem(0, 0, 0x10))), 2, api.ErrOrder)
	wantCheck(t, "below one of Level 2", source(entry("\u0301", elem(0, 0, 0x0f)), a, mark), 0, api.ErrOrder)
	wantCheck(t, "within an entry", source(entry("ae", elem(2, 0x50, 8), elem(0, 0, 8))), 0, api.ErrOrder)
	wantCheck(t, "behind another element", source(a, b, entry("\u0301", elem(0, 0, 9), elem(0, 0, 8))), 2, api.ErrOrder)
	wantCheck(t, "the first of two", source(a, entry("\u0301", elem(0, 0, 5)), b, entry("\u0302", elem(0, 0, 4))), 1, api.ErrOrder)
	wantWell(t, "of Level 3", a, entry("\u0301", elem(0, 0, 9)), entry("\u0302", elem(0, 0, 9)), entry("\u0303", elem(0, 0, 0x3f)))
	// The first entry counts, whatever the level.
	wantCheck(t, "Level 3, then 2", source(a, b, entry("\u0301", elem(0, 0, 8)), entry("\u0302", elem(0, 0x20, 2))), 2, api.ErrOrder)
	wantCheck(t, "Level 2, then 3", source(a, b, entry("\u0302", elem(0, 0x20, 2)), entry("\u0301", elem(0, 0, 8))), 2, api.ErrOrder)
	wantCheck(t, "Level 2 that may be, then 3", source(a, b, entry("\u0302", elem(0, 0x21, 2)), entry("\u0301", elem(0, 0, 8))), 3, api.ErrOrder)
}

// Code points without an entry have a second weight of 0x20 and a third one of 2.
func TestAboveThoseByRule(t *testing.T) {
	low := entry("a", elem(1, 1, 1))
	for _, l := range [][]api.Entry{nil, {low}, {entry("-", varied(1, 1, 1))}, {entry("a")}} {
		for _, x := range []struct {
			e  api.Errno
			of api.Element
		}{
			{api.ErrOrder, elem(0, 2, 1)}, {api.ErrOrder, elem(0, 0x1f, 1)}, {api.ErrOrder, elem(0, 0x20, 1)}, {api.ErrOrder, elem(0, 0x20, 0x3f)}, {api.OK, elem(0, 0x21, 1)},
			{api.ErrOrder, elem(0, 0, 1)}, {api.ErrOrder, elem(0, 0, 2)}, {api.OK, elem(0, 0, 3)},
		} {
			place := 0
			if x.e != api.OK {
				place = len(l)
			}
			wantCheck(t, "what is by rule", source(append(slices.Clone(l), entry("\u0301", x.of))...), place, x.e)
			s := source(append([]api.Entry{entry("\u0301", x.of)}, l...)...)
			s.Ranges = nil
			wantCheck(t, "what is by rule, of no ranges", s, 0, x.e)
		}
	}
}

func TestLevel0StandsAnywhere(t *testing.T) {
	zero := elem(0, 0, 0)
	wantWell(t, "alone", entry("\x00", zero))
	wantWell(t, "beside others", entry("a", zero, elem(2, 0x30, 8), zero), entry("\u0301", zero, elem(0, 0x31, 2), zero), entry("\u0302", elem(0, 0, 9), zero), entry("-", zero, varied(1, 0x20, 2), zero))
}

// P11.1: ErrVar

func TestVariablesBelow(t *testing.T) {
	a, b := entry("a", elem(0x20, 0x20, 2)), entry("b", elem(0x10, 0x20, 2))
	wantWell(t, "below", a, b, entry("-", varied(0xf, 0x20, 2)))
	wantWell(t, "only variable ones", entry("-", varied(0xfaff, 0x20, 2)), entry("+", varied(1, 0x20, 2)))
	wantCheck(t, "as great", source(a, b, entry("-", varied(0x10, 0x20, 2))), 2, api.ErrVar)
	wantCheck(t, "as great, with lesser weights behind", source(a, b, entry("-", varied(0x10, 1, 1))), 2, api.ErrVar)
	wantCheck(t, "above", source(a, b, entry("-", varied(0x11, 0x20, 2))), 2, api.ErrVar)
	wantCheck(t, "above all", source(a, b, entry("-", varied(0x21, 0x20, 2))), 2, api.ErrVar)
	wantCheck(t, "what is lesser stands behind", source(entry("-", varied(0x11, 0x20, 2)), a, b), 0, api.ErrVar)
	wantCheck(t, "the first of two", source(a, entry("-", varied(0x11, 0x20, 2)), b, entry("+", varied(0x11, 0x20, 2))), 1, api.ErrVar)
	wantCheck(t, "the second of two", source(a, entry("-", varied(0xf, 0x20, 2)), b, entry("+", varied(0x11, 0x20, 2))), 3, api.ErrVar)
	wantCheck(t, "behind another element", source(a, b, entry("-", varied(0xf, 0x20, 2), varied(0x10, 0x20, 2))), 2, api.ErrVar)
	// Neither those of lesser levels nor weights by rule are held against them.
	wantWell(t, "no others", entry("-", varied(0x9000, 0x20, 2)), entry("\u0301", elem(0, 0x21, 2)), entry("\u0302", elem(0, 0, 3)))
	wantWell(t, "between weights by rule", entry("-", varied(0x9000, 0x20, 2)), entry("a", elem(0x9001, 0x20, 2)))
}

func TestVariablesWithOthers(t *testing.T) {
	a := entry("a", elem(0x20, 0x20, 2))
	for _, l := range [][]api.Element{
		{varied(1, 0x20, 2), elem(0x30, 0x20, 2)},
		{elem(0x30, 0x20, 2), varied(1, 0x20, 2)},
		{elem(0x30, 0x20, 2), elem(0, 0x30, 2), elem(0, 0, 0), varied(1, 0x20, 2)},
		{varied(1, 0x20, 2), varied(2, 0x20, 2), elem(0, 0x30, 2), elem(0x30, 0x20, 2)},
	} {
		wantCheck(t, "a variable one beside another", source(a, entry("x", l...), a), 2, api.ErrTwin)
		wantCheck(t, "a variable one beside another", source(a, entry("x", l...)), 1, api.ErrVar)
		wantCheck(t, "the first of two", source(a, entry("x", l...), entry("-", varied(0x40, 0x20, 2))), 1, api.ErrVar)
		wantCheck(t, "the second of two", source(a, entry("-", varied(0x40, 0x20, 2)), entry("x", l...)), 1, api.ErrVar)
	}
	wantWell(t, "beside those of other levels", a, entry("x", varied(1, 0x20, 2), elem(0, 0x30, 2), elem(0, 0, 9), elem(0, 0, 0), varied(1, 0x20, 2)))
	wantWell(t, "in different entries", a, entry("x", varied(1, 0x20, 2)), entry("y", elem(0x30, 0x20, 2)))
}

// P11.2

func TestTop(t *testing.T) {
	for what, x := range map[string]struct {
		top api.Element
		l   []api.Entry
	}{
		"none":                 {elem(0, 0, 0), nil},
		"no elements":          {elem(0, 0, 0), []api.Entry{entry("a"), entry("")}},
		"one":                  {elem(1, 2, 3), []api.Entry{entry("a", elem(1, 2, 3))}},
		"one that is variable": {varied(1, 2, 3), []api.Entry{entry("a", varied(1, 2, 3))}},
		"each by itself":       {elem(9, 8, 7), []api.Entry{entry("a", elem(9, 1, 1)), entry("b", elem(1, 8, 2)), entry("c", elem(2, 2, 7))}},
		"in one entry":         {elem(9, 8, 7), []api.Entry{entry("a", elem(2, 2, 7), elem(1, 8, 2), elem(9, 1, 1))}},
		"variable in front":    {varied(9, 8, 7), []api.Entry{entry("a", varied(1, 1, 1)), entry("b", elem(9, 8, 7))}},
		"variable at the end":  {varied(9, 8, 7), []api.Entry{entry("b", elem(9, 8, 7), varied(1, 1, 1))}},
		"variable between":     {varied(9, 8, 7), []api.Entry{entry("a", elem(9, 8, 7)), entry("b", varied(0, 0, 0)), entry("c", elem(1, 1, 1))}},
		"below 0":              {elem(0, 0, 0), []api.Entry{entry("a", elem(-1, -2, math.MinInt))}},
		"some below 0":         {varied(0, 5, 0), []api.Entry{entry("a", varied(-1, 5, -7), elem(-3, -4, -5))}},
		"any numbers":          {elem(math.MaxInt, 1<<40, 70000), []api.Entry{entry("a", elem(math.MaxInt, -1, 70000)), entry("a", elem(3, 1<<40, math.MinInt))}},
	} {
		s := source(x.l...)
		was := cloned(s)
		want(t, "Top of "+what, valid.Top(s), x.top)
		want(t, "what was given stays", sameSource(s, was), true)
	}
}

// P11.3

func wantSorted(t testing.TB, what string, l []api.Entry, places ...int) {
	t.Helper()
	s := source(l...)
	was := cloned(s)
	w := source()
	for _, at := range places {
		w.Entries = append(w.Entries, l[at])
	}
	if got := valid.Sort(s); !sameSource(got, w) {
		t.Errorf("Sort of %s: %s\nwant %s", what, showSource(got), showSource(w))
	}
	want(t, "what was given stays", sameSource(s, was), true)
}

func TestSort(t *testing.T) {
	e := func(l ...rune) api.Entry { return api.Entry{Codes: l} }
	wantSorted(t, "none", nil)
	wantSorted(t, "one", []api.Entry{e('a')}, 0)
	wantSorted(t, "two", []api.Entry{e('a'), e('b')}, 0, 1)
	wantSorted(t, "two backwards", []api.Entry{e('b'), e('a')}, 1, 0)
	wantSorted(t, "beginnings", []api.Entry{e('a', 'b', 'c'), e('b'), e('a'), e('a', 'c'), e('a', 'b')}, 2, 4, 0, 3, 1)
	wantSorted(t, "no code points", []api.Entry{e('a'), e(), e(0)}, 1, 2, 0)
	wantSorted(t, "any numbers", []api.Entry{e(0x10ffff), e(math.MaxInt32), e(-1), e(0xffff), e(0x10000), e(0), e(math.MinInt32), e(0xd800), e(-1, 5)}, 6, 2, 8, 5, 7, 3, 4, 0, 1)
	// By code points, not by the bytes that they would have as numbers, nor by elements.
	wantSorted(t, "high and low bytes", []api.Entry{e(0x1ff), e(0x200), e(0x100), e(0x2ff)}, 2, 0, 1, 3)
	wantSorted(t, "elements", []api.Entry{entry("b", elem(1, 1, 1)), entry("a", elem(2, 1, 1))}, 1, 0)
	// Those that are alike stay as they stand.
	var l []api.Entry
	var places []int
	for i := range 100 {
		l = append(l, entry(string(rune('b'-i%2)), elem(i, 1, 1)))
	}
	for i := range 100 {
		places = append(places, (i*2+1)%101)
	}
	slices.SortFunc(places, func(a, b int) int { return cmp.Or(cmp.Compare(b%2, a%2), cmp.Compare(a, b)) })
	wantSorted(t, "twins", l, places...)
}

func TestSortTellsTheRest(t *testing.T) {
	twisted := []api.Implicit{{From: 5, To: 1, Base: -3}, {From: 1, To: 2, Base: 7, Whole: true}}
	got := valid.Sort(api.Source{Version: "no \xff version", Ranges: twisted, Entries: []api.Entry{entry("b", varied(-1, 3, 70000)), entry("a")}})
	want(t, "Sort", sameSource(got, api.Source{Version: "no \xff version", Ranges: twisted, Entries: []api.Entry{entry("a"), entry("b", varied(-1, 3, 70000))}}), true)
	want(t, "Sort of nothing", sameSource(valid.Sort(api.Source{}), api.Source{}), true)
}

// clobber changes all that s has, and what is behind its lists.
func clobber(s api.Source) {
	for i := range s.Ranges[:cap(s.Ranges)] {
		s.Ranges[:cap(s.Ranges)][i] = api.Implicit{From: -7}
	}
	for _, x := range s.Entries[:cap(s.Entries)] {
		for i := range x.Codes[:cap(x.Codes)] {
			x.Codes[:cap(x.Codes)][i] = -7
		}
		for i := range x.Elements[:cap(x.Elements)] {
			x.Elements[:cap(x.Elements)][i] = varied(-7, -7, -7)
		}
	}
	for i := range s.Entries[:cap(s.Entries)] {
		s.Entries[:cap(s.Entries)][i] = api.Entry{Codes: []rune("clobbered")}
	}
}

// P2
func TestAnswersShareNothing(t *testing.T) {
	for _, s := range []api.Source{valid.Small(), source(entry("b", elem(1, 1, 1)), entry("a", elem(2, 1, 1))), source(entry("a", elem(2, 1, 1)))} {
		was := cloned(s)
		a, b := valid.Sort(s), valid.Sort(s)
		sorted := cloned(a)
		clobber(a)
		want(t, "the source", sameSource(s, was), true)
		want(t, "another answer", sameSource(b, sorted), true)
		clobber(s)
		want(t, "an answer", sameSource(b, sorted), true)
	}
	a, b := valid.Small(), valid.Small()
	was := cloned(b)
	clobber(a)
	want(t, "another Small", sameSource(b, was), true)
	want(t, "the next Small", sameSource(valid.Small(), was), true)
}

// Two lists of one answer share nothing, and nothing is behind their ends.
func TestListsAreTheirOwn(t *testing.T) {
	l := []api.Element{elem(1, 1, 1), elem(2, 2, 2)}
	codes := []rune("abcdef")
	shared := api.Source{Version: "1", Entries: []api.Entry{{Codes: codes[1:3], Elements: l[:1]}, {Codes: codes[:2], Elements: l[:1]}, {Codes: codes[:1], Elements: l[:1]}}}
	for _, s := range []api.Source{valid.Sort(shared), valid.Small(), valid.Sort(valid.Small())} {
		want(t, "room behind entries", cap(s.Entries), len(s.Entries))
		want(t, "room behind ranges", cap(s.Ranges), len(s.Ranges))
		for i, x := range s.Entries {
			want(t, "room behind code points", cap(x.Codes), len(x.Codes))
			want(t, "room behind elements", cap(x.Elements), len(x.Elements))
			for _, y := range s.Entries[i+1:] {
				if len(x.Elements) > 0 && len(y.Elements) > 0 && &x.Elements[0] == &y.Elements[0] || &x.Codes[0] == &y.Codes[0] {
					t.Fatalf("%v and %v share a list", x, y)
				}
			}
		}
	}
	want(t, "what was shared stays", string(codes), "abcdef")
}

func TestSame(t *testing.T) {
	base := func() api.Source {
		return api.Source{Version: "1", Ranges: weight.Unified(), Entries: []api.Entry{entry("a", elem(1, 2, 3), varied(4, 5, 6)), entry("bc", elem(7, 8, 9)), entry("d")}}
	}
	want(t, "Same", valid.Same(base(), base()), true)
	want(t, "Same of nothing", valid.Same(api.Source{}, api.Source{}), true)
	want(t, "Same of nil and empty lists", valid.Same(api.Source{Ranges: []api.Implicit{}, Entries: []api.Entry{{Codes: []rune{}, Elements: []api.Element{}}}}, api.Source{Entries: []api.Entry{{}}}), true)
	want(t, "Same of empty lists", valid.Same(api.Source{Entries: []api.Entry{}}, api.Source{}), true)
	want(t, "Same of none and an empty entry", valid.Same(api.Source{Entries: []api.Entry{{}}}, api.Source{}), false)
	for i, change := range []func(*api.Source){
		func(s *api.Source) { s.Version = "" },
		func(s *api.Source) { s.Version = "2" },
		func(s *api.Source) { s.Ranges = nil },
		func(s *api.Source) { s.Ranges = s.Ranges[:3] },
		func(s *api.Source) { s.Ranges[3].From++ },
		func(s *api.Source) { s.Ranges[0].To++ },
		func(s *api.Source) { s.Ranges[1].Base++ },
		func(s *api.Source) { s.Ranges[2].Whole = false },
		func(s *api.Source) { slices.Reverse(s.Ranges) },
		func(s *api.Source) { s.Entries = nil },
		func(s *api.Source) { s.Entries = s.Entries[:2] },
		func(s *api.Source) { s.Entries = s.Entries[1:] },
		func(s *api.Source) { slices.Reverse(s.Entries) },
		func(s *api.Source) { s.Entries = append(s.Entries, api.Entry{}) },
		func(s *api.Source) { s.Entries[2].Codes[0] = 'e' },
		func(s *api.Source) { s.Entries[1].Codes[1] = 'b' },
		func(s *api.Source) { s.Entries[1].Codes = s.Entries[1].Codes[:1] },
		func(s *api.Source) { s.Entries[0].Elements = s.Entries[0].Elements[:1] },
		func(s *api.Source) { s.Entries[2].Elements = []api.Element{{}} },
		func(s *api.Source) { s.Entries[0].Elements[1].Var = false },
		func(s *api.Source) { s.Entries[0].Elements[0].Var = true },
		func(s *api.Source) { s.Entries[0].Elements[0].P++ },
		func(s *api.Source) { s.Entries[0].Elements[1].S++ },
		func(s *api.Source) { s.Entries[1].Elements[0].T++ },
		func(s *api.Source) { slices.Reverse(s.Entries[0].Elements) },
	} {
		a, b := base(), base()
		change(&b)
		if valid.Same(a, b) || valid.Same(b, a) || !valid.Same(b, b) {
			t.Errorf("change %d: Same %v, %v; of itself %v", i, valid.Same(a, b), valid.Same(b, a), valid.Same(b, b))
		}
		if !sameSource(a, base()) {
			t.Errorf("change %d: what was given has changed", i)
		}
	}
}
