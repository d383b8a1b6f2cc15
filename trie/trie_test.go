package trie_test

import (
	"math"
	"slices"
	"strconv"
	"sync"
	"testing"

	"lectern/api"
	"lectern/trie"
)

func wantErr(t testing.TB, what string, got, want api.Errno) {
	t.Helper()
	if got != want {
		t.Errorf("%s: error %d, want %d", what, got, want)
	}
}

func want[T comparable](t testing.TB, what string, got, want T) {
	t.Helper()
	if got != want {
		t.Errorf("%s: %v, want %v", what, got, want)
	}
}

func wantList[T comparable](t testing.TB, what string, got, want []T) {
	t.Helper()
	if !slices.Equal(got, want) {
		t.Errorf("%s: %v, want %v", what, got, want)
	}
}

// hex is a list of code points as one reads it.
func hex(l []rune) string {
	s := "{"
	for _, r := range l {
		s += " " + strconv.FormatInt(int64(r), 16)
	}
	return s + " }"
}

func elem(p, s, t int) api.Element { return api.Element{P: p, S: s, T: t} }

// entry has elements that are no other's, if number is not.
func entry(codes string, number int) api.Entry {
	return api.Entry{Codes: []rune(codes), Elements: []api.Element{elem(number+1, 0x20, 2), elem(0, number%0x100+1, 2)}}
}

// entries have the code points of each of codes, and the elements of its number.
func entries(codes ...string) []api.Entry {
	var out []api.Entry
	for i, s := range codes {
		out = append(out, entry(s, i))
	}
	return out
}

// made is New of what has to succeed.
func made(t testing.TB, l []api.Entry) *trie.Trie {
	t.Helper()
	x, at, e := trie.New(l)
	if x == nil || at != 0 || e != api.OK {
		t.Fatalf("New of %v: place %d, error %d", l, at, e)
	}
	return x
}

func wantNotMade(t testing.TB, what string, l []api.Entry, place int, want api.Errno) {
	t.Helper()
	x, at, e := trie.New(l)
	if x != nil || at != place || e != want {
		t.Errorf("%s: %v, place %d, error %d; want none, place %d, error %d", what, x != nil, at, e, place, want)
	}
}

func sameEntry(a, b api.Entry) bool {
	return slices.Equal(a.Codes, b.Codes) && slices.Equal(a.Elements, b.Elements)
}

// wantTold holds what Each tells against the entries of l with these numbers.
func wantTold(t testing.TB, x *trie.Trie, l []api.Entry, numbers ...int) {
	t.Helper()
	var got []int
	for number, one := range x.Each() {
		if number < 0 || number >= len(l) || !sameEntry(one, l[number]) {
			t.Fatalf("Each: number %d is %v", number, one)
		}
		got = append(got, number)
	}
	wantList(t, "Each", got, numbers)
}

// under are the code points of what Under tells.
func under(x *trie.Trie, l string) []string {
	var out []string
	for one := range x.Under([]rune(l)) {
		out = append(out, string(one.Codes))
	}
	return out
}

func wantGet(t testing.TB, x *trie.Trie, l []rune, elements []api.Element, is bool) {
	t.Helper()
	if got, found := x.Get(l); !slices.Equal(got, elements) || found != is {
		t.Errorf("Get of %s: %v, %v; want %v, %v", hex(l), got, found, elements, is)
	}
}

func wantLongest(t testing.TB, x *trie.Trie, l []rune, long int, elements []api.Element) {
	t.Helper()
	if n, got := x.Longest(l); n != long || !slices.Equal(got, elements) {
		t.Errorf("Longest of %s: %d, %v; want %d, %v", hex(l), n, got, long, elements)
	}
}

// notMade are tries that New did not make.
func notMade() []*trie.Trie { return []*trie.Trie{nil, {}, new(trie.Trie)} }

// The chapter's example.

func TestExample(t *testing.T) {
	l := entries("a", "ch", "c")
	x := made(t, l)
	wantLongest(t, x, []rune("cha"), 2, l[1].Elements)
	want(t, "Begins", x.Begins([]rune("c")), true)
	wantTold(t, x, l, 0, 2, 1)
}

// P9.1

func TestEntriesThatMayBe(t *testing.T) {
	sixteen := slices.Repeat([]api.Element{elem(1, 1, 1)}, api.MaxElements)
	for what, l := range map[string][]api.Entry{
		"no list":                   nil,
		"an empty one":              {},
		"no elements":               {{Codes: []rune{'a'}}},
		"an empty list of elements": {{Codes: []rune{'a'}, Elements: []api.Element{}}},
		"code point 0":              {entry("\x00", 0)},
		"0 once and twice":          entries("\x00", "\x00\x00"),
		"the last code point":       {entry("\U0010ffff", 0)},
		"beside the surrogates":     {entry("\ud7ff", 0), entry("\ue000", 1)},
		"eight code points":         {entry("abcdefgh", 0)},
		"eight alike":               {entry("aaaaaaaa", 0)},
		"sixteen elements":          {{Codes: []rune{'a'}, Elements: sixteen}},
		"one element for two":       {{Codes: []rune{'a'}, Elements: sixteen[:1]}, {Codes: []rune{'b'}, Elements: sixteen[:1]}},
		"one that is ignored":       {{Codes: []rune{'a'}, Elements: []api.Element{elem(0, 0, 0)}}},
		"the greatest weights":      {{Codes: []rune{'a'}, Elements: []api.Element{elem(0xfaff, 0x1ff, 0x3f)}}},
		"each level":                {{Codes: []rune{'a'}, Elements: []api.Element{elem(0, 0, 1), elem(0, 1, 1), elem(1, 1, 1), {P: 1, S: 1, T: 1, Var: true}}}},
		"not normalised":            entries("\u00e9", "e\u0301", "e\u0301\u0323"),
		"no entry for a beginning":  entries("abc", "b"),
	} {
		x := made(t, l)
		want(t, what+": Len", x.Len(), len(l))
		for _, one := range l {
			wantGet(t, x, one.Codes, one.Elements, true)
		}
	}
}

func TestEntriesThatMayNotBe(t *testing.T) {
	seventeen := slices.Repeat([]api.Element{elem(1, 1, 1)}, api.MaxElements+1)
	for _, c := range []struct {
		what  string
		entry api.Entry
		want  api.Errno
	}{
		{"nothing", api.Entry{}, api.ErrSeq},
		{"no code point", api.Entry{Elements: []api.Element{elem(1, 1, 1)}}, api.ErrSeq},
		{"an empty list of code points", api.Entry{Codes: []rune{}}, api.ErrSeq},
		{"nine code points", entry("abcdefghi", 0), api.ErrSeq},
		{"many code points", api.Entry{Codes: make([]rune, 5000)}, api.ErrSeq},
		{"-1", api.Entry{Codes: []rune{-1}}, api.ErrSeq},
		{"the least number", api.Entry{Codes: []rune{math.MinInt32}}, api.ErrSeq},
		{"the greatest number", api.Entry{Codes: []rune{math.MaxInt32}}, api.ErrSeq},
		{"one above the last", api.Entry{Codes: []rune{0x110000}}, api.ErrSeq},
		{"the first surrogate", api.Entry{Codes: []rune{0xd800}}, api.ErrSeq},
		{"the last surrogate", api.Entry{Codes: []rune{0xdfff}}, api.ErrSeq},
		{"a surrogate behind code points", api.Entry{Codes: []rune{'a', 'b', 0xdabc}}, api.ErrSeq},
		{"a surrogate as the eighth", api.Entry{Codes: []rune{1, 2, 3, 4, 5, 6, 7, 0xd800}}, api.ErrSeq},
		{"a surrogate ahead", api.Entry{Codes: []rune{0xd800, 'a'}}, api.ErrSeq},
		{"seventeen elements", api.Entry{Codes: []rune{'a'}, Elements: seventeen}, api.ErrLong},
		{"many elements", api.Entry{Codes: []rune{'a'}, Elements: slices.Repeat(seventeen, 100)}, api.ErrLong},
		{"a primary of rules", with(elem(0xfb00, 1, 1)), api.ErrWeight},
		{"the greatest primary", with(elem(api.MaxPrimary, 1, 1)), api.ErrWeight},
		{"a primary above it", with(elem(api.MaxPrimary+1, 1, 1)), api.ErrWeight},
		{"a primary below 0", with(elem(-1, 1, 1)), api.ErrWeight},
		{"a secondary that is too great", with(elem(1, api.MaxSecondary+1, 1)), api.ErrWeight},
		{"a secondary below 0", with(elem(1, -1, 1)), api.ErrWeight},
		{"a tertiary that is too great", with(elem(1, 1, api.MaxTertiary+1)), api.ErrWeight},
		{"a tertiary below 0", with(elem(1, 1, -1)), api.ErrWeight},
		{"a primary without a secondary", with(elem(1, 0, 1)), api.ErrWeight},
		{"a secondary without a tertiary", with(elem(0, 1, 0)), api.ErrWeight},
		{"variable without a primary", with(api.Element{S: 1, T: 1, Var: true}), api.ErrWeight},
		{"variable and nothing else", with(api.Element{Var: true}), api.ErrWeight},
		{"a wrong one behind", with(elem(1, 1, 1), elem(0, 0, 0), elem(1, 0, 1)), api.ErrWeight},
		{"a wrong one as the sixteenth", with(append(slices.Clone(seventeen[:15]), elem(1, 0, 1))...), api.ErrWeight},
	} {
		wantNotMade(t, c.what, []api.Entry{c.entry}, 0, c.want)
		wantNotMade(t, c.what+", behind others", append(entries("1", "2", "12"), c.entry), 3, c.want)
		wantNotMade(t, c.what+", ahead of others", append([]api.Entry{entry("1", 0), c.entry}, entries("2", "3")...), 1, c.want)
		wantNotMade(t, c.what+", ahead of a wrong one", []api.Entry{c.entry, {}}, 0, c.want)
	}
}

// with is an entry with elements, by the code points x y.
func with(l ...api.Element) api.Entry { return api.Entry{Codes: []rune("xy"), Elements: l} }

func TestTwins(t *testing.T) {
	for _, c := range []struct {
		codes []string
		place int
	}{
		{[]string{"a", "a"}, 1},
		{[]string{"a", "b", "a"}, 2},
		{[]string{"a", "b", "b", "a"}, 2},
		{[]string{"ab", "a", "abc", "ab"}, 3},
		{[]string{"abcdefgh", "abcdefg", "abcdefgh"}, 2},
		{[]string{"\x00", "\x00\x00", "\x00\x00"}, 2},
		{[]string{"\U0010ffff", "\uffff", "\U0010ffff"}, 2},
	} {
		wantNotMade(t, "twins", entries(c.codes...), c.place, api.ErrTwin)
	}
	// Elements don't count: neither that they are the same, nor that there are none.
	wantNotMade(t, "the same elements", []api.Entry{entry("a", 1), entry("a", 1)}, 1, api.ErrTwin)
	wantNotMade(t, "no elements ahead", []api.Entry{{Codes: []rune{'a'}}, entry("a", 1)}, 1, api.ErrTwin)
	wantNotMade(t, "no elements at all", []api.Entry{{Codes: []rune{'a'}}, {Codes: []rune{'a'}}}, 1, api.ErrTwin)
	made(t, entries("ab", "ba", "a", "b", "aa", "bb", "abab", "aba"))
}

// Of several errors the first one is told: entries in their order, and each one's errors in theirs.
func TestErrorsInOrder(t *testing.T) {
	wrong := slices.Repeat([]api.Element{elem(1, 0, 0)}, api.MaxElements+1)
	none := []rune{0xd800}
	wantNotMade(t, "all of them", []api.Entry{entry("a", 0), {Codes: none, Elements: wrong}}, 1, api.ErrSeq)
	wantNotMade(t, "code points and weights", []api.Entry{{Codes: none, Elements: wrong[:1]}}, 0, api.ErrSeq)
	wantNotMade(t, "elements, weights and a twin", []api.Entry{entry("a", 0), {Codes: []rune("a"), Elements: wrong}}, 1, api.ErrLong)
	wantNotMade(t, "weights and a twin", []api.Entry{entry("a", 0), {Codes: []rune("a"), Elements: wrong[:1]}}, 1, api.ErrWeight)
	wantNotMade(t, "a twin ahead of a wrong one", []api.Entry{entry("a", 0), entry("a", 0), {}}, 1, api.ErrTwin)
	wantNotMade(t, "a wrong one ahead of a twin", []api.Entry{entry("a", 0), {Codes: []rune("b"), Elements: wrong[:1]}, entry("a", 0)}, 1, api.ErrWeight)
}

// many are as many entries as n, each of which may be: some with two code points, in falling order.
func many(n int) []api.Entry {
	var out []api.Entry
	for i := range n {
		x := api.Entry{Codes: []rune{rune(0x20000 - i)}, Elements: []api.Element{elem(i+1, 1, 1)}}
		if i%2 == 1 {
			x.Codes = []rune{0x20000, rune(0x20000 - i)}
		}
		out = append(out, x)
	}
	return out
}

func TestAsManyAsMayBe(t *testing.T) {
	l := many(api.MaxEntries)
	x := made(t, l)
	want(t, "Len", x.Len(), api.MaxEntries)
	for _, one := range l {
		wantGet(t, x, one.Codes, one.Elements, true)
	}
	n := 0
	for number, one := range x.Each() {
		if !sameEntry(one, l[number]) {
			t.Fatalf("number %d: %v", number, one)
		}
		n++
	}
	want(t, "entries", n, api.MaxEntries)
}

func TestTooMany(t *testing.T) {
	for _, n := range []int{api.MaxEntries + 1, api.MaxEntries + 2, 9000} {
		l := many(n)
		wantNotMade(t, strconv.Itoa(n), l, 0, api.ErrLong)
		// It is named ahead of what is wrong in one.
		l[0].Codes, l[5] = nil, l[7]
		wantNotMade(t, strconv.Itoa(n), l, 0, api.ErrLong)
	}
	wantNotMade(t, "one that is wrong", append(many(api.MaxEntries-1), api.Entry{}), api.MaxEntries-1, api.ErrSeq)
	wantNotMade(t, "a twin at the end", append(many(api.MaxEntries-1), many(1)...), api.MaxEntries-1, api.ErrTwin)
}

func TestNotMade(t *testing.T) {
	for _, x := range notMade() {
		for _, l := range [][]rune{nil, {}, {'a'}, {-1}, {0xd800}, []rune("abcdefghijk")} {
			want(t, "Len", x.Len(), 0)
			wantGet(t, x, l, nil, false)
			wantLongest(t, x, l, 0, nil)
			want(t, "Begins", x.Begins(l), false)
			for range x.Under(l) {
				t.Error("Under: an entry")
			}
		}
		for range x.Each() {
			t.Error("Each: an entry")
		}
		want(t, "Asked", x.Asked(), 0)
	}
}

func TestNoEntries(t *testing.T) {
	x := made(t, nil)
	want(t, "Len", x.Len(), 0)
	for _, l := range [][]rune{nil, {}, {'a'}, {-1}, []rune("abcdefghijk")} {
		wantGet(t, x, l, nil, false)
		wantLongest(t, x, l, 0, nil)
		want(t, "Begins", x.Begins(l), false)
		wantList(t, "Under", under(x, string(l)), nil)
	}
	wantTold(t, x, nil)
	want(t, "Asked", x.Asked(), 10)
}

// P9.2

func TestGet(t *testing.T) {
	l := append(entries("a", "abc", "abcd", "b", "\U0010ffff", "abcdefgh"), api.Entry{Codes: []rune("z")}, api.Entry{Codes: []rune("zy"), Elements: []api.Element{{}}})
	x := made(t, l)
	want(t, "Len", x.Len(), 8)
	for _, one := range l {
		wantGet(t, x, one.Codes, one.Elements, true)
	}
	for _, c := range [][]rune{
		nil, {}, {0}, {'c'}, []rune("ab"), []rune("abcde"), []rune("abcdefg"), []rune("abcdefghi"), []rune("ba"), []rune("aa"), []rune("bc"), []rune("zyx"), []rune("y"),
		{-1}, {'a', -1}, {0xd800}, {0x110000}, {math.MinInt32}, {math.MaxInt32}, {'a' + 0x10000}, {0x10ffff, 0x10ffff}, make([]rune, 10000),
	} {
		wantGet(t, x, c, nil, false)
	}
}

// P9.3

func TestLongest(t *testing.T) {
	l := append(entries("c", "chi", "a", "abcdefgh", "ab", "\x00\x00"), api.Entry{Codes: []rune("n")}, entry("nop", 9), api.Entry{Codes: []rune("nopq")})
	x := made(t, l)
	for _, c := range []struct {
		text   string
		long   int
		number int
	}{
		{"c", 1, 0}, {"ch", 1, 0}, {"cha", 1, 0}, {"chi", 3, 1}, {"chii", 3, 1}, {"cc", 1, 0},
		{"a", 1, 2}, {"ac", 1, 2}, {"ab", 2, 4}, {"abc", 2, 4}, {"abcdefg", 2, 4}, {"abcdefgx", 2, 4}, {"abcdefgh", 8, 3}, {"abcdefghabcdefgh", 8, 3},
		{"\x00\x00", 2, 5}, {"\x00\x00\x00", 2, 5},
		{"n", 1, 6}, {"no", 1, 6}, {"nox", 1, 6}, {"nop", 3, 7}, {"nopq", 4, 8}, {"nopqr", 4, 8},
	} {
		wantLongest(t, x, []rune(c.text), c.long, l[c.number].Elements)
	}
	for _, c := range [][]rune{
		nil, {}, {'h'}, []rune("hc"), []rune("b"), []rune("xa"), {0}, {0, 'a'}, {-1}, {-1, 'a'}, {0xd800, 'a'}, {0x110000}, {math.MinInt32}, {math.MaxInt32}, make([]rune, 1),
	} {
		wantLongest(t, x, c, 0, nil)
	}
	wantLongest(t, x, []rune{'a', -1, 'b'}, 1, l[2].Elements)
	wantLongest(t, x, []rune{'c', 'h', 0xd800}, 1, l[0].Elements)
	wantLongest(t, x, append([]rune("ab"), make([]rune, 10000)...), 2, l[4].Elements)
}

func TestBegins(t *testing.T) {
	x := made(t, entries("a", "ch", "c", "abcdefgh", "z", "\x00\x00"))
	for _, s := range []string{"", "c", "a", "ab", "abc", "abcdefg", "\x00"} {
		want(t, "Begins of "+s, x.Begins([]rune(s)), true)
	}
	for _, s := range []string{"ch", "cha", "z", "zz", "b", "bc", "abd", "abcdefgh", "abcdefghi", "\x00\x00", "\x00\x00\x00", "h"} {
		want(t, "Begins of "+s, x.Begins([]rune(s)), false)
	}
	for _, l := range [][]rune{{-1}, {0xd800}, {0x110000}, {'a', -1}, {'a', math.MinInt32}, make([]rune, 10000)} {
		want(t, "Begins of "+hex(l), x.Begins(l), false)
	}
	want(t, "of nothing, with one entry", made(t, entries("a")).Begins(nil), true)
}

// P9.4

func TestEach(t *testing.T) {
	l := entries("b", "ab", "\U0010ffff", "a", "abc", "\ue000", "\x00", "\ud7ff", "b\x00", "ac", "\x00\x00", "aa", "B", "ab\U0010ffff", "abb")
	x := made(t, l)
	wantTold(t, x, l, 6, 10, 12, 3, 11, 1, 14, 4, 13, 9, 0, 8, 7, 5, 2)
	wantTold(t, made(t, l[:1]), l, 0)
}

func TestUnder(t *testing.T) {
	l := append(entries("b", "ab", "\U0010ffff", "a", "abcd", "abbb", "ac", "b\x00"), api.Entry{Codes: []rune("ab\x00")})
	x := made(t, l)
	wantList(t, "all", under(x, ""), []string{"a", "ab", "ab\x00", "abbb", "abcd", "ac", "b", "b\x00", "\U0010ffff"})
	wantList(t, "a", under(x, "a"), []string{"a", "ab", "ab\x00", "abbb", "abcd", "ac"})
	wantList(t, "ab", under(x, "ab"), []string{"ab", "ab\x00", "abbb", "abcd"})
	wantList(t, "abb", under(x, "abb"), []string{"abbb"})
	wantList(t, "abbb", under(x, "abbb"), []string{"abbb"})
	wantList(t, "b", under(x, "b"), []string{"b", "b\x00"})
	wantList(t, "the last", under(x, "\U0010ffff"), []string{"\U0010ffff"})
	for _, s := range []string{"c", "abbbb", "bb", "\x00", "abcdefghijkl", "\U0010ffff\U0010ffff"} {
		wantList(t, s, under(x, s), nil)
	}
	for _, c := range [][]rune{{-1}, {0xd800}, {'a', 0x110000}, {math.MinInt32}, make([]rune, 10000)} {
		for one := range x.Under(c) {
			t.Errorf("Under %s: %v", hex(c), one)
		}
	}
	for one := range x.Under([]rune("abc")) {
		want(t, "the entry", sameEntry(one, l[4]), true)
	}
}

func TestLeftAndGoneOverAgain(t *testing.T) {
	l := entries("b", "ab", "c", "a", "abc", "abcd", "cd")
	x := made(t, l)
	each, below := x.Each(), x.Under([]rune("a"))
	order, lower := []int{3, 1, 4, 5, 0, 2, 6}, []string{"a", "ab", "abc", "abcd"}
	for range 2 {
		for most := 1; most <= len(order); most++ {
			var got []int
			for number := range each {
				if got = append(got, number); len(got) == most {
					break
				}
			}
			wantList(t, "Each, left", got, order[:most])
		}
		for most := 1; most <= len(lower); most++ {
			var got []string
			for one := range below {
				if got = append(got, string(one.Codes)); len(got) == most {
					break
				}
			}
			wantList(t, "Under, left", got, lower[:most])
		}
	}
	n := 0
	for range each {
		for range below {
			for range each {
				n++
			}
		}
	}
	want(t, "one within the other", n, 7*4*7)
}

// P9.5

func TestAsked(t *testing.T) {
	x := made(t, entries("a", "ch", "c"))
	want(t, "ahead", x.Asked(), 0)
	wantGet(t, x, []rune("a"), entry("a", 0).Elements, true)
	want(t, "behind a Get", x.Asked(), 1)
	x.Longest([]rune("a"))
	want(t, "behind a Longest", x.Asked(), 2)
	x.Get(nil)
	x.Get([]rune("xyz"))
	x.Longest(nil)
	x.Longest([]rune("xyz"))
	want(t, "of what there isn't", x.Asked(), 6)
	x.Len()
	x.Begins([]rune("c"))
	x.Asked()
	for range x.Each() {
		for range x.Under([]rune("c")) {
		}
	}
	want(t, "behind other calls", x.Asked(), 6)
	want(t, "of another", made(t, entries("a")).Asked(), 0)
}

func TestManyAskAtOnce(t *testing.T) {
	l := entries("a", "ch", "c", "abc")
	x := made(t, l)
	var all sync.WaitGroup
	for range 16 {
		all.Go(func() {
			for range 50 {
				wantGet(t, x, []rune("c"), l[2].Elements, true)
				wantLongest(t, x, []rune("cha"), 2, l[1].Elements)
				want(t, "Begins", x.Begins([]rune("ab")), true)
				wantTold(t, x, l, 0, 3, 2, 1)
			}
		})
	}
	all.Wait()
	want(t, "Asked", x.Asked(), 16*50*2)
}

// None of many that ask at the same time is left out of the count.
func TestAllWhoAskAreCounted(t *testing.T) {
	x := made(t, nil)
	var all sync.WaitGroup
	for range 8 {
		all.Go(func() {
			for range 50_000 {
				x.Get(nil)
				x.Longest(nil)
			}
		})
	}
	all.Wait()
	want(t, "Asked", x.Asked(), 8*50_000*2)
}

// P2 of the whole: nothing is shared, nothing that is given is changed, nothing behind an end is read or handed out.

// clearAll does away with all that an entry has, also what lies behind the ends.
func clearAll(x api.Entry) {
	clear(x.Codes[:cap(x.Codes)])
	clear(x.Elements[:cap(x.Elements)])
}

func TestWhatIsGivenStays(t *testing.T) {
	l := entries("b", "ab", "a")
	given := entries("b", "ab", "a", "none")
	for i := range given { // what lies behind may not be, and is not read
		given[i].Codes = append(given[i].Codes, -1)[:len(given[i].Codes)]
		given[i].Elements = append(given[i].Elements, elem(-1, -1, -1))[:2]
	}
	given[3].Codes = nil
	x := made(t, given[:3])
	asked := []rune{'a', 'b', 'a'}
	wantGet(t, x, asked[:2], l[1].Elements, true)
	wantLongest(t, x, asked[1:2], 1, l[0].Elements)
	below := x.Under(asked[:2])
	wantList(t, "what is asked for", asked, []rune{'a', 'b', 'a'})
	for i, one := range given[:3] {
		want(t, "an entry", sameEntry(one, l[i]), true)
		want(t, "behind its code points", one.Codes[:len(one.Codes)+1][len(one.Codes)], -1)
		want(t, "behind its elements", one.Elements[:3][2], elem(-1, -1, -1))
		clearAll(given[i])
	}
	clear(given)
	clear(asked)
	wantTold(t, x, l, 2, 1, 0)
	n := 0
	for one := range below {
		want(t, "Under", sameEntry(one, l[1]), true)
		n++
	}
	want(t, "Under", n, 1)
}

func TestAnswersShareNothing(t *testing.T) {
	l := entries("b", "ab", "a")
	x := made(t, l)
	each, below := x.Each(), x.Under([]rune("ab"))
	for range 2 {
		for _, one := range l {
			got, _ := x.Get(one.Codes)
			want(t, "room behind the end", cap(got), 2)
			clear(got)
			_, got = x.Longest(one.Codes)
			want(t, "room behind the end", cap(got), 2)
			clear(got)
		}
		for number, one := range each {
			want(t, "Each", sameEntry(one, l[number]), true)
			want(t, "room behind the end", cap(one.Codes), len(one.Codes))
			want(t, "room behind the end", cap(one.Elements), 2)
			clear(one.Codes)
			clear(one.Elements)
		}
		for one := range below {
			want(t, "Under", sameEntry(one, l[1]), true)
			want(t, "room behind the end", cap(one.Codes), len(one.Codes))
			want(t, "room behind the end", cap(one.Elements), 2)
			clear(one.Codes)
			clear(one.Elements)
		}
		for _, one := range l {
			wantGet(t, x, one.Codes, one.Elements, true)
			wantLongest(t, x, one.Codes, len(one.Codes), one.Elements)
		}
		wantTold(t, x, l, 2, 1, 0)
	}
}
