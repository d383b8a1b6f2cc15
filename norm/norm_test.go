package norm_test

import (
	"math"
	"slices"
	"strconv"
	"strings"
	"sync"
	"testing"

	"lectern/api"
	"lectern/norm"
	"lectern/norms"
)

func wantErr(t testing.TB, what string, got, want api.Errno) {
	t.Helper()
	if got != want {
		t.Errorf("%s: error %d, want %d", what, got, want)
	}
}

func want[T comparable](t testing.TB, what string, got, want T) {
	t.Helper()
	if got != want {
		t.Errorf("%s: %v, want %v", what, got, want)
	}
}

// wantRunes also fails if there is room behind the end: what is answered has nothing there.
func wantRunes(t testing.TB, what string, got, want []rune) {
	t.Helper()
	if !slices.Equal(got, want) {
		t.Errorf("%s: %x, want %x", what, got, want)
	}
	if cap(got) != len(got) {
		t.Errorf("%s: room for %d behind the end", what, cap(got)-len(got))
	}
}

func wantPieces(t testing.TB, what string, got, want [][]rune) {
	t.Helper()
	if !slices.EqualFunc(got, want, slices.Equal[[]rune]) {
		t.Errorf("%s: %x, want %x", what, got, want)
	}
}

// made are loaded data of what may be.
func made(t testing.TB, c []api.Class, d []api.Decomp) *norms.Norms {
	t.Helper()
	b, e := norms.Build(c, d)
	wantErr(t, "Build", e, api.OK)
	n, e := norms.Load(b)
	wantErr(t, "Load", e, api.OK)
	return n
}

func small(t testing.TB) *norms.Norms {
	t.Helper()
	n, e := norms.Load(norms.Small())
	wantErr(t, "Load", e, api.OK)
	return n
}

// notMade are data that norms did not make: by them all stays as it is, and all is of class 0.
func notMade() []*norms.Norms { return []*norms.Norms{nil, {}} }

// hex are the numbers of a list as the chapter writes them.
func hex(l []rune) string {
	var out []string
	for _, r := range l {
		out = append(out, strconv.FormatInt(int64(r), 16))
	}
	return strings.Join(out, " ")
}

func one(r rune, class int) api.Class { return api.Class{From: r, To: r, Class: class} }

// behind is l with room behind its end, and what lies there: neither of it may be read, written or handed out.
func behind(l []rune) []rune {
	whole := append(slices.Clone(l), 0x301, 0x323, 'z', 0xd800)
	return whole[:len(l)]
}

// wantBehind fails if what lies behind l, as the function behind made it, is no longer as it was.
func wantBehind(t testing.TB, l []rune) {
	t.Helper()
	whole := l[:len(l)+4]
	if !slices.Equal(whole[len(l):], []rune{0x301, 0x323, 'z', 0xd800}) {
		t.Errorf("behind the end: %x", whole[len(l):])
	}
}

// P6.1

func TestOrder(t *testing.T) {
	n := small(t)
	for _, c := range []struct{ l, want []rune }{
		{nil, nil},
		{[]rune{}, nil},
		{[]rune{'a'}, []rune{'a'}},
		{[]rune{0x301}, []rune{0x301}},
		{[]rune("cba"), []rune("cba")},
		{[]rune{0x302, 0x323}, []rune{0x323, 0x302}},
		{[]rune{0x323, 0x302}, []rune{0x323, 0x302}},
		{[]rune{'a', 0x302, 0x323}, []rune{'a', 0x323, 0x302}},
		{[]rune{0x302, 0x301}, []rune{0x302, 0x301}}, // of one class
		{[]rune{0x301, 0x302}, []rune{0x301, 0x302}},
		{[]rune{0x302, 0x325, 0x301, 0x324}, []rune{0x325, 0x324, 0x302, 0x301}},
		{[]rune{0x302, 'a', 0x323}, []rune{0x302, 'a', 0x323}}, // two runs
		{[]rune{0x302, 0x323, 'a', 'b', 0x301, 0x327}, []rune{0x323, 0x302, 'a', 'b', 0x327, 0x301}},
		{[]rune{'a', 0x345, 0x301, 0x323, 0x327, 0x5b0, 0x94d, 0x93c, 0x338}, []rune{'a', 0x338, 0x93c, 0x94d, 0x5b0, 0x327, 0x323, 0x301, 0x345}},
		{[]rune{0x344, 0x301, 0x323}, []rune{0x344, 0x323, 0x301}},                   // 344 has no class: it isn't decomposed here
		{[]rune{0x1ead, 0xac01, 0x302, 0x323}, []rune{0x1ead, 0xac01, 0x323, 0x302}}, // nor is any
		{[]rune{0x301, 0x323, 0, 0x301, 0x323}, []rune{0x323, 0x301, 0, 0x323, 0x301}},
		// Of any list: numbers that are no scalars have no class.
		{[]rune{0x301, -1, 0x323}, []rune{0x301, -1, 0x323}},
		{[]rune{0x301, 0xd800, 0x323, 0x110000, 0x301, 0x323}, []rune{0x301, 0xd800, 0x323, 0x110000, 0x323, 0x301}},
		{[]rune{math.MaxInt32, 0x301, 0x323, math.MinInt32}, []rune{math.MaxInt32, 0x323, 0x301, math.MinInt32}},
	} {
		wantRunes(t, "Order of "+hex(c.l), norm.Order(n, c.l), c.want)
		for _, none := range notMade() {
			wantRunes(t, "Order of "+hex(c.l)+" without data", norm.Order(none, c.l), c.l)
		}
	}
}

// What has a class stands in a run, scalar or not; all classes there may be are sorted.
func TestOrderByTheClassesAlone(t *testing.T) {
	n := made(t, []api.Class{one('a', 254), one('b', 1), one('c', 128), one('d', 127), {From: 0xd7ff, To: 0xe000, Class: 9}, one(0x10ffff, 255-1)}, nil)
	wantRunes(t, "Order", norm.Order(n, []rune{'a', 'c', 'd', 'b'}), []rune{'b', 'd', 'c', 'a'})
	wantRunes(t, "Order", norm.Order(n, []rune{'a', 0xd800, 'b', 0xe000}), []rune{'b', 0xd800, 0xe000, 'a'})
	wantRunes(t, "Order", norm.Order(n, []rune{0x10ffff, 'a', 'b', 'e', 'c', 'b'}), []rune{'b', 0x10ffff, 'a', 'e', 'b', 'c'})
}

// A list may be longer than what NFD takes, a run too, and neither takes long.
func TestOrderOfLongLists(t *testing.T) {
	n := small(t)
	const long = 300_000
	var l, first, second []rune
	for i := range rune(long) {
		a, b := 0x300+i%0x15, 0x323+i%4 // classes 230 and 220
		l = append(l, a, b)
		first, second = append(first, b), append(second, a)
	}
	got := norm.Order(n, l)
	if !slices.Equal(got, slices.Concat(first, second)) {
		t.Error("a long run isn't in order")
	}
	for i := range l {
		l[i] = []rune{'a', 0x302, 0x323}[i%3]
	}
	for i, r := range norm.Order(n, l) {
		if r != []rune{'a', 0x323, 0x302}[i%3] {
			t.Fatalf("%x at %d", r, i)
		}
	}
}

// P6.2

func TestNFD(t *testing.T) {
	n := small(t)
	for _, c := range []struct{ l, want []rune }{
		{nil, nil},
		{[]rune{}, nil},
		{[]rune{'a', 'b'}, []rune{'a', 'b'}},
		{[]rune{0}, []rune{0}},
		{[]rune{0x1ead}, []rune{0x61, 0x323, 0x302}},
		{[]rune{0x61, 0x302, 0x323}, []rune{0x61, 0x323, 0x302}},
		{[]rune{0xe2, 0x323}, []rune{0x61, 0x323, 0x302}},
		{[]rune{0x1ea1, 0x302}, []rune{0x61, 0x323, 0x302}},
		{[]rune{0x1d6}, []rune{0x75, 0x308, 0x304}},
		{[]rune{0x212b, 0x2126}, []rune{0x41, 0x30a, 0x3a9}},
		{[]rune{0xac01, 0xac00}, []rune{0x1100, 0x1161, 0x11a8, 0x1100, 0x1161}},
		{[]rune{0xd7a3, 0x301, 0x323}, []rune{0x1112, 0x1175, 0x11c2, 0x323, 0x301}},
		{[]rune{0x344, 0x323}, []rune{0x323, 0x308, 0x301}}, // what it comes to has a class, though it has none
		{[]rune{'a', 0x345, 0x344, 0x323}, []rune{'a', 0x323, 0x308, 0x301, 0x345}},
		{[]rune{0x301, 0x323, 'a'}, []rune{0x323, 0x301, 'a'}}, // a mark that nothing begins with class 0 ahead of
		{[]rune{0x958, 0x94d}, []rune{0x915, 0x93c, 0x94d}},
		{[]rune{0x958, 0x338}, []rune{0x915, 0x338, 0x93c}},
		{[]rune{0xd7ff, 0xe000, 0x10ffff}, []rune{0xd7ff, 0xe000, 0x10ffff}},
	} {
		l, e := norm.NFD(n, c.l)
		wantErr(t, "NFD of "+hex(c.l), e, api.OK)
		wantRunes(t, "NFD of "+hex(c.l), l, c.want)
		want(t, "Is of "+hex(c.l), norm.Is(n, c.l), slices.Equal(c.l, c.want))
		s, e := norm.Text(n, string(c.l))
		wantErr(t, "Text of "+hex(c.l), e, api.OK)
		want(t, "Text of "+hex(c.l), s, string(c.want))
	}
}

// A Code with a class may come to one of class 0 behind its first: nothing goes beyond that.
func TestClassNoughtWithin(t *testing.T) {
	n := made(t, []api.Class{one(1, 220), one(2, 230), one(3, 10)}, []api.Decomp{{Code: 2, A: 1, B: 'x'}, {Code: 'y', A: 3, B: 'x'}})
	for _, c := range []struct{ l, want []rune }{
		{[]rune{2}, []rune{1, 'x'}},
		{[]rune{2, 3}, []rune{1, 'x', 3}},
		{[]rune{2, 2, 3}, []rune{1, 'x', 1, 'x', 3}},
		{[]rune{1, 'y', 1}, []rune{3, 1, 'x', 1}},
		{[]rune{1, 'y', 'y', 3}, []rune{3, 1, 'x', 3, 'x', 3}},
	} {
		l, _ := norm.NFD(n, c.l)
		wantRunes(t, "NFD of "+hex(c.l), l, c.want)
		wantStream(t, n, c.l, c.want)
	}
}

func TestWithoutData(t *testing.T) {
	for _, n := range notMade() {
		l := []rune{0x1ead, 0x302, 0x323, 0xac01, 0x212b}
		got, e := norm.NFD(n, l)
		wantErr(t, "NFD", e, api.OK)
		wantRunes(t, "NFD", got, l)
		want(t, "Is", norm.Is(n, l), true)
		s, e := norm.Text(n, string(l))
		wantErr(t, "Text", e, api.OK)
		want(t, "Text", s, string(l))
		is, e := norm.Same(n, "\u00e9", "e\u0301")
		wantErr(t, "Same", e, api.OK)
		want(t, "Same", is, false)
		is, _ = norm.Same(n, "\u00e9", "\u00e9")
		want(t, "Same", is, true)
		c, e := norm.Compare(n, "\u00e9", "f")
		wantErr(t, "Compare", e, api.OK)
		want(t, "Compare", c, 1)
		wantPieces(t, "Parts", slices.Collect(norm.Parts(n, l)), [][]rune{{0x1ead}, {0x302}, {0x323}, {0xac01}, {0x212b}})
		wantStream(t, n, l, l)
		_, e = norm.NFD(n, []rune{0xd800})
		wantErr(t, "NFD of a surrogate", e, api.ErrRune)
		_, e = norm.Text(n, "\xff")
		wantErr(t, "Text of no text", e, api.ErrUTF)
		_, e = norm.NFD(n, make([]rune, api.MaxRunes+1))
		wantErr(t, "NFD of too many", e, api.ErrLong)
	}
}

// wantRefused fails if NFD takes l, or what stands on it does.
func wantRefused(t *testing.T, what string, l []rune, want api.Errno) {
	t.Helper()
	n := small(t)
	got, e := norm.NFD(n, l)
	wantErr(t, "NFD: "+what, e, want)
	wantRunes(t, "NFD: "+what, got, nil)
	if norm.Is(n, l) {
		t.Errorf("Is: %s", what)
	}
	wantPieces(t, "Parts: "+what, slices.Collect(norm.Parts(n, l)), nil)
}

func TestNoScalars(t *testing.T) {
	for _, r := range []rune{-1, math.MinInt32, 0xd800, 0xdabc, 0xdfff, 0x110000, math.MaxInt32} {
		wantRefused(t, hex([]rune{r}), []rune{r}, api.ErrRune)
		wantRefused(t, hex([]rune{r})+" ahead", []rune{r, 'a'}, api.ErrRune)
		wantRefused(t, hex([]rune{r})+" behind", []rune{'a', 0x1ead, r}, api.ErrRune)
	}
	many := slices.Repeat([]rune{'a'}, 2*api.MaxRunes)
	wantRefused(t, "too many", many, api.ErrLong)
	many[len(many)-1] = 0xd800
	wantRefused(t, "too many, and a surrogate among them", many, api.ErrRune) // it is named first
}

func TestAsManyAsMayBe(t *testing.T) {
	n := small(t)
	for _, c := range []struct {
		r  rune
		to []rune
	}{{'a', []rune{'a'}}, {0x1d6, []rune{0x75, 0x308, 0x304}}, {0xac01, []rune{0x1100, 0x1161, 0x11a8}}} {
		l := slices.Repeat([]rune{c.r}, api.MaxRunes)
		whole := slices.Repeat(c.to, api.MaxRunes) // it may be longer than MaxRunes
		got, e := norm.NFD(n, l)
		wantErr(t, "as many as may be", e, api.OK)
		wantRunes(t, "as many as may be", got, whole)
		if parts := slices.Concat(slices.Collect(norm.Parts(n, l))...); !slices.Equal(parts, whole) {
			t.Error("Parts are others")
		}
		want(t, "Is", norm.Is(n, l), len(c.to) == 1)
		wantRefused(t, "one more", append(l, c.r), api.ErrLong)
		wantRefused(t, "many more", make([]rune, 100_000), api.ErrLong)
	}
	marks := slices.Repeat([]rune{0x301, 0x323}, api.MaxRunes/2)
	got, e := norm.NFD(n, marks)
	wantErr(t, "marks", e, api.OK)
	wantRunes(t, "marks", got, slices.Concat(slices.Repeat([]rune{0x323}, api.MaxRunes/2), slices.Repeat([]rune{0x301}, api.MaxRunes/2)))
}

func TestText(t *testing.T) {
	n := small(t)
	for s, want := range map[string]string{
		"": "", "abc": "abc", "\x00": "\x00", "\u1ead": "a\u0323\u0302", "a\u0302\u0323": "a\u0323\u0302", "\uac01": "\u1100\u1161\u11a8", "\ufffd": "\ufffd", "\U0010ffff": "\U0010ffff",
		// Each of these has 1000 bytes.
		strings.Repeat("a", api.MaxString):         strings.Repeat("a", api.MaxString),
		strings.Repeat("\u00e9", api.MaxString/2):  strings.Repeat("e\u0301", api.MaxString/2), // it may be longer than MaxString
		strings.Repeat("\uac01", 333) + "a":        strings.Repeat("\u1100\u1161\u11a8", 333) + "a",
		strings.Repeat("\U0001f600", 250):          strings.Repeat("\U0001f600", 250),
		strings.Repeat("\u0301\u0323", 250):        strings.Repeat("\u0323", 250) + strings.Repeat("\u0301", 250),
		strings.Repeat("a", 998) + "\u00e9":        strings.Repeat("a", 998) + "e\u0301",
		strings.Repeat("a", 997) + "\u1ea1":        strings.Repeat("a", 998) + "\u0323",
		strings.Repeat("\u1ead", 332) + "a\u0300b": strings.Repeat("a\u0323\u0302", 332) + "a\u0300b",
	} {
		got, e := norm.Text(n, s)
		if e != api.OK || got != want {
			t.Errorf("Text of %q: %q, error %d; want %q", s, got, e, want)
		}
	}
}

// badTexts are texts that Text refuses, with its error: what is no text goes ahead of what is too long.
func badTexts() map[string]api.Errno {
	long := strings.Repeat("a", api.MaxString)
	return map[string]api.Errno{
		"\xff": api.ErrUTF, "a\x80": api.ErrUTF, "\xed\xa0\x80": api.ErrUTF, "\xc0\x80": api.ErrUTF, "e\xcc": api.ErrUTF, "\xf4\x90\x80\x80": api.ErrUTF,
		long + "a": api.ErrLong, strings.Repeat("\u00e9", 501): api.ErrLong, strings.Repeat("\u0301", 5000): api.ErrLong, strings.Repeat("a", 1<<20): api.ErrLong,
		long + "\xff": api.ErrUTF, long[1:] + "\xe2\x82": api.ErrUTF, strings.Repeat("a", 1<<20) + "\xff": api.ErrUTF,
	}
}

func TestNoText(t *testing.T) {
	n := small(t)
	for s, want := range badTexts() {
		got, e := norm.Text(n, s)
		if e != want || got != "" {
			t.Errorf("Text of %.20q, %d bytes: %q, error %d; want error %d", s, len(s), got, e, want)
		}
	}
}

func TestIs(t *testing.T) {
	n := small(t)
	for s, is := range map[string]bool{
		"": true, "abc": true, "e\u0301": true, "\u00e9": false, "a\u0323\u0302": true, "a\u0302\u0323": false, "\u0301": true, "\u0301\u0302": true, "\u0302\u0301": true,
		"\uac00": false, "\u1100\u1161": true, "\u0344": false, "\u0308\u0301": true, "a\u0302b\u0323": true, "\u2126": false, "\u03a9": true,
	} {
		want(t, "Is of "+strconv.Quote(s), norm.Is(n, []rune(s)), is)
	}
}

// P6.3

func TestSameAndCompare(t *testing.T) {
	n := small(t)
	for _, c := range []struct {
		a, b string
		want int
	}{
		{"", "", 0}, {"a", "a", 0}, {"\u1ead", "a\u0302\u0323", 0}, {"\u1ead", "\u00e2\u0323", 0}, {"\u00c5", "\u212b", 0}, {"A\u030a", "\u212b", 0},
		{"\u2126", "\u03a9", 0}, {"\uac01", "\u1100\u1161\u11a8", 0}, {"\uac00\u11a8", "\uac01", 0}, {"\u0344", "\u0308\u0301", 0}, {"\u1e69", "s\u0307\u0323", 0},
		{"", "a", -1}, {"a", "ab", -1}, {"a", "b", -1}, {"\u0301\u0302", "\u0302\u0301", -1}, {"a\u0302", "a\u0323", -1}, {"e", "\u00e9", -1},
		{"\u00e9", "f", -1}, {"\u00e9", "z", -1}, // it is e and a mark: as bytes alone it would be behind
		{"\uac00", "\u1101", -1}, {"\uffff", "\U00010000", -1}, {"\u212b", "\u00c8", -1}, {"\u2126", "\u0400", -1}, {"a\x00", "\u00e1", -1},
	} {
		for _, x := range []struct {
			a, b string
			want int
		}{c, {c.b, c.a, -c.want}} {
			what := strconv.QuoteToASCII(x.a) + " and " + strconv.QuoteToASCII(x.b)
			got, e := norm.Compare(n, x.a, x.b)
			wantErr(t, "Compare of "+what, e, api.OK)
			want(t, "Compare of "+what, got, x.want)
			is, e := norm.Same(n, x.a, x.b)
			wantErr(t, "Same of "+what, e, api.OK)
			want(t, "Same of "+what, is, x.want == 0)
		}
	}
}

func TestSameAndCompareOfNoTexts(t *testing.T) {
	n := small(t)
	wantBoth := func(a, b string, err api.Errno) {
		t.Helper()
		is, e := norm.Same(n, a, b)
		wantErr(t, "Same", e, err)
		want(t, "Same", is, false)
		c, e := norm.Compare(n, a, b)
		wantErr(t, "Compare", e, err)
		want(t, "Compare", c, 0)
	}
	for a, err := range badTexts() {
		wantBoth(a, "z", err)
		wantBoth("z", a, err)
		wantBoth(a, a, err)
		for b := range badTexts() { // a's error goes ahead
			wantBoth(a, b, err)
		}
	}
}

// P6.4

func TestParts(t *testing.T) {
	n := small(t)
	for _, c := range []struct {
		l    []rune
		want [][]rune
	}{
		{nil, nil},
		{[]rune{}, nil},
		{[]rune{'a'}, [][]rune{{'a'}}},
		{[]rune{0x301}, [][]rune{{0x301}}},
		{[]rune{0x301, 0x323}, [][]rune{{0x323, 0x301}}},
		{[]rune{0x302, 0x323, 'a', 'b', 0x301}, [][]rune{{0x323, 0x302}, {'a'}, {'b', 0x301}}},
		{[]rune{0x1ead, 0x61}, [][]rune{{0x61, 0x323, 0x302}, {0x61}}},
		{[]rune{0xe2, 0x323, 0xe9}, [][]rune{{0x61, 0x323, 0x302}, {0x65, 0x301}}},
		{[]rune{0xac01, 0x302, 0x323}, [][]rune{{0x1100}, {0x1161}, {0x11a8, 0x323, 0x302}}},
		{[]rune{'a', 0x344}, [][]rune{{'a', 0x308, 0x301}}},
		{[]rune{0x344, 'a'}, [][]rune{{0x308, 0x301}, {'a'}}},
		{[]rune{0, 0x301, 0}, [][]rune{{0, 0x301}, {0}}},
	} {
		each := norm.Parts(n, c.l)
		for range 2 { // it may be gone over again
			wantPieces(t, "Parts of "+hex(c.l), slices.Collect(each), c.want)
		}
		for most := 1; most <= len(c.want); most++ { // and left
			var got [][]rune
			for p := range each {
				want(t, "room behind the end", cap(p), len(p))
				got = append(got, p)
				if len(got) == most {
					break
				}
			}
			wantPieces(t, "Parts of "+hex(c.l)+", left", got, c.want[:most])
		}
	}
}

// P2 of the whole: nothing is shared, nothing that is given is changed, nothing behind an end is read or handed out.

func TestWhatIsGivenStays(t *testing.T) {
	n := small(t)
	was := []rune{0x1ead, 0x302, 0x323, 'a', 0x345, 0x301}
	l := behind(was)
	whole, _ := norm.NFD(n, l)
	wantRunes(t, "NFD", whole, []rune{0x61, 0x323, 0x323, 0x302, 0x302, 'a', 0x301, 0x345})
	wantRunes(t, "Order", norm.Order(n, l), []rune{0x1ead, 0x323, 0x302, 'a', 0x301, 0x345})
	want(t, "Is", norm.Is(n, l), false)
	parts := norm.Parts(n, l)
	for range parts {
	}
	if !slices.Equal(l, was) {
		t.Errorf("the list that was given: %x, want %x", l, was)
	}
	wantBehind(t, l)
	clear(l)
	clear(whole)
	wantPieces(t, "Parts, when the list has changed", slices.Collect(parts), [][]rune{{0x61, 0x323, 0x323, 0x302, 0x302}, {'a', 0x301, 0x345}})
	again, _ := norm.NFD(n, was)
	want(t, "NFD again", len(again), 8)
}

func TestAnswersShareNothing(t *testing.T) {
	n := small(t)
	l := []rune{'a', 0x302, 'b'} // it is in order, and nothing decomposes
	for _, answer := range []func() []rune{
		func() []rune { return norm.Order(n, l) },
		func() []rune { x, _ := norm.NFD(n, l); return x },
		func() []rune { return slices.Collect(norm.Parts(n, l[:2]))[0] },
	} {
		first := answer()
		was := slices.Clone(first)
		clear(first)
		wantRunes(t, "the list that was given", slices.Clip(l), []rune{'a', 0x302, 'b'})
		wantRunes(t, "a second answer", answer(), was)
	}
	parts := norm.Parts(n, []rune{'a', 0x301, 'b', 0x302, 'c'})
	for p := range parts {
		clear(p)
		p = append(p, 'x', 'y')
		p[0] = 'z'
	}
	wantPieces(t, "Parts", slices.Collect(parts), [][]rune{{'a', 0x301}, {'b', 0x302}, {'c'}})
}

func TestManyAskAtOnce(t *testing.T) {
	n := small(t)
	parts := norm.Parts(n, []rune{0x1ead, 0xe9})
	var all sync.WaitGroup
	for range 16 {
		all.Go(func() {
			l, e := norm.NFD(n, []rune{0x1ead})
			wantErr(t, "NFD", e, api.OK)
			wantRunes(t, "NFD", l, []rune{0x61, 0x323, 0x302})
			wantPieces(t, "Parts", slices.Collect(parts), [][]rune{{0x61, 0x323, 0x302}, {0x65, 0x301}})
		})
	}
	all.Wait()
}
