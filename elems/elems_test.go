package elems_test

import (
	"slices"
	"strconv"
	"strings"
	"sync"
	"testing"

	"lectern/api"
	"lectern/elems"
	"lectern/norms"
	"lectern/pack"
	"lectern/table"
	"lectern/valid"
	"lectern/weight"
)

func want[T comparable](t testing.TB, what string, got, want T) {
	t.Helper()
	if got != want {
		t.Errorf("%s: %v, want %v", what, got, want)
	}
}

func elem(p, s, t int) api.Element { return api.Element{P: p, S: s, T: t} }

func varied(p, s, t int) api.Element { return api.Element{P: p, S: s, T: t, Var: true} }

func entry(codes string, l ...api.Element) api.Entry {
	return api.Entry{Codes: []rune(codes), Elements: l}
}

func source(l ...api.Entry) api.Source {
	return api.Source{Version: "1", Ranges: weight.Unified(), Entries: l}
}

// build is norms' Build of what has to succeed, and load pack's Load of Make.
func build(t testing.TB, c []api.Class, d []api.Decomp) []byte {
	t.Helper()
	b, e := norms.Build(c, d)
	if e != api.OK {
		t.Fatalf("norms.Build of %x, %x: error %d", c, d, e)
	}
	return b
}

func load(t testing.TB, data []byte, s api.Source) *pack.Table {
	t.Helper()
	b, at, e := pack.Make(data, s)
	if e != api.OK {
		t.Fatalf("pack.Make: place %d, error %d", at, e)
	}
	x, e := pack.Load(b)
	if e != api.OK {
		t.Fatalf("pack.Load: error %d", e)
	}
	return x
}

// small is the small table with the small data.
func small(t testing.TB) *pack.Table {
	t.Helper()
	return load(t, norms.Small(), valid.Small())
}

// weights are the elements of the entry of that number in a table that tableOf made.
func weights(number int) []api.Element { return []api.Element{elem(0x100+number, 0x20, 2)} }

// tableOf has the small data, and entries that tell by their weights which ones they are.
func tableOf(t testing.TB, codes ...string) *pack.Table {
	t.Helper()
	var l []api.Entry
	for number, s := range codes {
		l = append(l, entry(s, weights(number)...))
	}
	return load(t, norms.Small(), source(l...))
}

// notMade are tables that Load did not make.
func notMade() []*pack.Table { return []*pack.Table{nil, {}, new(pack.Table)} }

func show(l []api.Element) string {
	out := ""
	for _, x := range l {
		out += weight.Show(x)
	}
	return out
}

func showPieces(l []api.Piece) string {
	var out []string
	for _, p := range l {
		var places []string
		for _, at := range p.At {
			places = append(places, strconv.Itoa(at))
		}
		one := "{" + strings.Join(places, " ") + "}" + show(p.Elements)
		if p.Rule {
			one += " by rule"
		}
		out = append(out, one)
	}
	return strings.Join(out, ", ")
}

func samePiece(a, b api.Piece) bool {
	return slices.Equal(a.At, b.At) && slices.Equal(a.Elements, b.Elements) && a.Rule == b.Rule
}

// of is the piece of the entry of that number, rule that of a code point that has none.
func of(number int, at ...int) api.Piece { return api.Piece{At: at, Elements: weights(number)} }

func rule(r rune, at int) api.Piece {
	return api.Piece{At: []int{at}, Elements: weight.Implicit(r, weight.Unified()), Rule: true}
}

// joined are the elements of pieces, one behind the other.
func joined(l []api.Piece) []api.Element {
	var out []api.Element
	for _, p := range l {
		out = append(out, p.Elements...)
	}
	return out
}

// told is all that Each tells; the numbers have to be right.
func told(t testing.TB, x *pack.Table, s string) []api.Element {
	t.Helper()
	var out []api.Element
	for number, one := range elems.Each(x, s) {
		want(t, "Each's number", number, len(out))
		out = append(out, one)
	}
	return out
}

func wantElements(t testing.TB, what string, got, want []api.Element) {
	t.Helper()
	if !slices.Equal(got, want) {
		t.Errorf("%s: %s, want %s", what, show(got), show(want))
	}
}

// wantPieces holds all calls of a list that may be against its pieces.
func wantPieces(t testing.TB, x *pack.Table, l []rune, w ...api.Piece) {
	t.Helper()
	got, e := elems.Pieces(x, l)
	if e != api.OK || !slices.EqualFunc(got, w, samePiece) {
		t.Errorf("Pieces of %s: %s, error %d; want %s", table.Show(l), showPieces(got), e, showPieces(w))
	}
	all, e := elems.Of(x, l)
	want(t, "Of's error", e, api.OK)
	wantElements(t, "Of "+table.Show(l), all, joined(w))
	all, e = elems.String(x, string(l))
	want(t, "String's error", e, api.OK)
	wantElements(t, "String of "+table.Show(l), all, joined(w))
	wantElements(t, "Each of "+table.Show(l), told(t, x, string(l)), joined(w))
}

// wantRefused holds the calls of a list that may not be against its error.
func wantRefused(t testing.TB, what string, x *pack.Table, l []rune, err api.Errno) {
	t.Helper()
	if got, e := elems.Pieces(x, l); got != nil || e != err {
		t.Errorf("Pieces of %s: %s, error %d; want error %d", what, showPieces(got), e, err)
	}
	if got, e := elems.Of(x, l); got != nil || e != err {
		t.Errorf("Of %s: %s, error %d; want error %d", what, show(got), e, err)
	}
}

func wantTextRefused(t testing.TB, what string, x *pack.Table, s string, err api.Errno) {
	t.Helper()
	if got, e := elems.String(x, s); got != nil || e != err {
		t.Errorf("String of %s: %s, error %d; want error %d", what, show(got), e, err)
	}
	want(t, "Each of "+what, len(told(t, x, s)), 0)
}

// The chapter's example, and P13.1

func TestExample(t *testing.T) {
	x := small(t)
	below, grave, acute := []api.Element{elem(0, 0x42, 2)}, []api.Element{elem(0, 0x25, 2)}, []api.Element{elem(0, 0x24, 2)}
	alpha, both := []api.Element{elem(0x801, 0x20, 2)}, []api.Element{elem(0x802, 0x20, 2)}
	wantPieces(t, x, []rune{0x3b1, 0x323, 0x301}, api.Piece{At: []int{0, 2}, Elements: both}, api.Piece{At: []int{1}, Elements: below})
	wantPieces(t, x, []rune{0x3b1, 0x301, 0x323}, api.Piece{At: []int{0, 2}, Elements: both}, api.Piece{At: []int{1}, Elements: below})
	wantPieces(t, x, []rune{0x3b1, 0x300, 0x301}, api.Piece{At: []int{0}, Elements: alpha}, api.Piece{At: []int{1}, Elements: grave}, api.Piece{At: []int{2}, Elements: acute})
	wantPieces(t, x, []rune{0x3b1, 0x301, 0x300}, api.Piece{At: []int{0, 1}, Elements: both}, api.Piece{At: []int{2}, Elements: grave})
}

func TestPieces(t *testing.T) {
	x := small(t)
	a, acute := []api.Element{elem(0x510, 0x20, 2)}, []api.Element{elem(0, 0x24, 2)}
	wantPieces(t, x, nil)
	wantPieces(t, x, []rune{})
	wantPieces(t, x, []rune("a"), api.Piece{At: []int{0}, Elements: a})
	wantPieces(t, x, []rune("A a"), api.Piece{At: []int{0}, Elements: []api.Element{elem(0x510, 0x20, 8)}},
		api.Piece{At: []int{1}, Elements: []api.Element{varied(0x201, 0x20, 2)}}, api.Piece{At: []int{2}, Elements: a})
	wantPieces(t, x, []rune{0xe1, 'a'}, api.Piece{At: []int{0}, Elements: a}, api.Piece{At: []int{1}, Elements: acute}, api.Piece{At: []int{2}, Elements: a})
	wantPieces(t, x, []rune{0x301, 'a'}, api.Piece{At: []int{0}, Elements: acute}, api.Piece{At: []int{1}, Elements: a})
	wantPieces(t, x, []rune{0xe6}, api.Piece{At: []int{0}, Elements: []api.Element{elem(0x510, 0x20, 4), elem(0, 0x110, 4), elem(0x550, 0x20, 4)}})
	// An entry without elements is one all the same.
	wantPieces(t, x, []rune{0, 'a', 0x200d}, api.Piece{At: []int{0}}, api.Piece{At: []int{1}, Elements: a}, api.Piece{At: []int{2}})
}

func TestByRule(t *testing.T) {
	x := small(t)
	for _, c := range []struct {
		r             rune
		first, second int
	}{
		{0x3400, 0xfb80, 0xb400}, {0x4e00, 0xfb40, 0xce00}, {0x9fd5, 0xfb41, 0x9fd5}, {0x17001, 0xfb00, 0x8001}, {0x20000, 0xfb84, 0x8000}, {1, 0xfbc0, 0x8001}, {0xe000, 0xfbc1, 0xe000}, {0x10ffff, 0xfbe1, 0xffff},
	} {
		wantPieces(t, x, []rune{c.r}, api.Piece{At: []int{0}, Elements: []api.Element{elem(c.first, 0x20, 2), elem(c.second, 0, 0)}, Rule: true})
	}
	// A syllable comes to two or three code points, each of which has its own by rule.
	wantPieces(t, x, []rune{0xac01}, rule(0x1100, 0), rule(0x1161, 1), rule(0x11a8, 2))
	wantPieces(t, x, []rune{0xac00, 0x1234}, rule(0x1100, 0), rule(0x1161, 1), rule(0x1234, 2))
	// The ranges are the table's own.
	for base, ranges := range map[int][]api.Implicit{0xfbc0: nil, 0xfb80: {{From: 0x4e00, To: 0x4e00, Base: 0xfb80}}} {
		s := source()
		s.Ranges = ranges
		p := api.Piece{At: []int{0}, Elements: []api.Element{elem(base, 0x20, 2), elem(0xce00, 0, 0)}, Rule: true}
		wantPieces(t, load(t, norms.Small(), s), []rune{0x4e00}, p)
	}
}

func TestLongestMatch(t *testing.T) {
	x := tableOf(t, "a", "ab", "abcd", "bc", "d", "abcdefgh", "h")
	wantPieces(t, x, []rune("a"), of(0, 0))
	wantPieces(t, x, []rune("ab"), of(1, 0, 1))
	wantPieces(t, x, []rune("aab"), of(0, 0), of(1, 1, 2))
	// abc is no entry, though one begins so: what follows is looked for from c on.
	wantPieces(t, x, []rune("abc"), of(1, 0, 1), rule('c', 2))
	wantPieces(t, x, []rune("abcbcd"), of(1, 0, 1), rule('c', 2), of(3, 3, 4), of(4, 5))
	wantPieces(t, x, []rune("abcd"), of(2, 0, 1, 2, 3))
	wantPieces(t, x, []rune("abcdefg"), of(2, 0, 1, 2, 3), rule('e', 4), rule('f', 5), rule('g', 6))
	wantPieces(t, x, []rune("abcdefgh"), of(5, 0, 1, 2, 3, 4, 5, 6, 7))
	wantPieces(t, x, []rune("habcdefghh"), of(6, 0), of(5, 1, 2, 3, 4, 5, 6, 7, 8), of(6, 9))
	// What begins like an entry, but is none, is by rule.
	wantPieces(t, x, []rune("ba"), rule('b', 0), of(0, 1))
	wantPieces(t, x, []rune("bab"), rule('b', 0), of(1, 1, 2))
	// It is the normalised list in which entries are looked for.
	y := tableOf(t, "e", "e\u0301", "\u0301a", "\u0301a\u0300")
	wantPieces(t, y, []rune("\u00e9a"), of(1, 0, 1), rule('a', 2))
	wantPieces(t, y, []rune("e\u0302\u0301"), of(0, 0), rule(0x302, 1), rule(0x301, 2))
	wantPieces(t, y, []rune("x\u00e1"), rule('x', 0), rule('a', 1), rule(0x301, 2))
	wantPieces(t, y, []rune("x\u0301a"), rule('x', 0), of(2, 1, 2))
	wantPieces(t, y, []rune("x\u0301\u00e0"), rule('x', 0), of(3, 1, 2, 3))
}

// Marks of the small data, in order of their classes: U+0338 (1), U+0327 (202), U+0323 (220), U+0300 and so on (230), U+0345 (240).

func TestAcrossMarks(t *testing.T) {
	x := tableOf(t, "a", "a\u0301", "a\u0301\u0345", "a\u0327", "b", "b\u0345", "\u0301", "\u0323", "ac", "ac\u0301", "e\u0301")
	// Over marks that are left, which come behind it.
	wantPieces(t, x, []rune("a\u0323\u0301"), of(1, 0, 2), of(7, 1))
	wantPieces(t, x, []rune("a\u0338\u0323\u0301b"), of(1, 0, 3), rule(0x338, 1), of(7, 2), of(4, 4))
	wantPieces(t, x, []rune("b\u0338\u0323\u0301\u0345"), of(5, 0, 4), rule(0x338, 1), of(7, 2), of(6, 3))
	// One that is met is met further on with others: over what is left, too.
	wantPieces(t, x, []rune("a\u0301\u0345"), of(2, 0, 1, 2))
	wantPieces(t, x, []rune("a\u0323\u0301\u0345"), of(2, 0, 2, 3), of(7, 1))
	wantPieces(t, x, []rune("a\u0323\u0301\u0302\u0345"), of(2, 0, 2, 4), of(7, 1), rule(0x302, 3))
	wantPieces(t, x, []rune("a\u0301\u0302\u0345"), of(2, 0, 1, 3), rule(0x302, 2))
	// With what was met the next one is no entry: it is left.
	wantPieces(t, x, []rune("a\u0327\u0301"), of(3, 0, 1), of(6, 2))
	wantPieces(t, x, []rune("a\u0345\u0323"), of(0, 0), of(7, 1), rule(0x345, 2))
	// From all of a longer match on.
	wantPieces(t, x, []rune("ac\u0323\u0301"), of(9, 0, 1, 3), of(7, 2))
	wantPieces(t, x, []rune("ac\u0323"), of(8, 0, 1), of(7, 2))
	// What has no entry takes no marks with it, though it has one with the mark.
	wantPieces(t, x, []rune("e\u0323\u0301"), rule('e', 0), of(7, 1), of(6, 2))
	wantPieces(t, x, []rune("e\u0301\u0323"), rule('e', 0), of(7, 1), of(6, 2))
	wantPieces(t, x, []rune("e\u0301\u0345"), of(10, 0, 1), rule(0x345, 2))
}

func TestUpToTheFirstStarter(t *testing.T) {
	x := tableOf(t, "a", "a\u0301", "b", "\u0301", "\u0323", "\u0323c", "c")
	wantPieces(t, x, []rune("ab\u0301"), of(0, 0), of(2, 1), of(3, 2))
	wantPieces(t, x, []rune("a\u0323b\u0301"), of(0, 0), of(4, 1), of(2, 2), of(3, 3))
	wantPieces(t, x, []rune("a\u0323\u0001\u0301"), of(0, 0), of(4, 1), rule(1, 2), of(3, 3))
	wantPieces(t, x, []rune("ac\u0301"), of(0, 0), of(6, 1), of(3, 2))
	// The mark that was used parts what is left: U+0323 and c don't follow one another.
	wantPieces(t, x, []rune("a\u0323\u0301c"), of(1, 0, 2), of(4, 1), of(6, 3))
	wantPieces(t, x, []rune("a\u0301\u0323c"), of(1, 0, 2), of(4, 1), of(6, 3))
	wantPieces(t, x, []rune("a\u0323c"), of(0, 0), of(5, 1, 2))
	wantPieces(t, x, []rune("b\u0323c\u0301"), of(2, 0), of(5, 1, 2), of(3, 3))
}

func TestBlocked(t *testing.T) {
	x := tableOf(t, "a", "a\u0301", "a\u0301\u0300", "a\u0345", "a\u0338", "a\u0338\u0301", "b", "b\u0301", "b\u0302", "b\u0302\u0301", "\u0301")
	// By one of its class that was left; not by others of that class behind it.
	wantPieces(t, x, []rune("a\u0302\u0301"), of(0, 0), rule(0x302, 1), of(10, 2))
	wantPieces(t, x, []rune("a\u0302\u0303\u0301"), of(0, 0), rule(0x302, 1), rule(0x303, 2), of(10, 3))
	wantPieces(t, x, []rune("a\u0301\u0302"), of(1, 0, 1), rule(0x302, 2))
	// Not by one of another class, whatever that one blocks.
	wantPieces(t, x, []rune("a\u0302\u0301\u0345"), of(3, 0, 3), rule(0x302, 1), of(10, 2))
	wantPieces(t, x, []rune("a\u0327\u0323\u0301"), of(1, 0, 3), rule(0x327, 1), rule(0x323, 2))
	// Not by one of its class that went into the match.
	wantPieces(t, x, []rune("a\u0301\u0300"), of(2, 0, 1, 2))
	wantPieces(t, x, []rune("a\u0323\u0301\u0300"), of(2, 0, 2, 3), rule(0x323, 1))
	wantPieces(t, x, []rune("b\u0323\u0302\u0301"), of(9, 0, 2, 3), rule(0x323, 1))
	wantPieces(t, x, []rune("b\u0301\u0302"), of(7, 0, 1), rule(0x302, 2))
	// But by one that was left between: of its class again.
	wantPieces(t, x, []rune("a\u0323\u0301\u0302\u0300"), of(1, 0, 2), rule(0x323, 1), rule(0x302, 3), rule(0x300, 4))
	wantPieces(t, x, []rune("a\u0301\u0301\u0300"), of(1, 0, 1), of(10, 2), rule(0x300, 3))
	wantPieces(t, x, []rune("a\u0338\u0338\u0301"), of(5, 0, 1, 3), rule(0x338, 2))
	wantPieces(t, x, []rune("a\u0338\u0302\u0301"), of(4, 0, 1), rule(0x302, 2), of(10, 3))
}

// What was left comes next, and is met with what is left behind it, over what was used.
func TestWhatWasLeft(t *testing.T) {
	x := tableOf(t, "a", "a\u0301", "\u0323", "\u0323\u0345", "\u0338", "\u0338\u0323", "\u0338\u0323\u0345", "\u0327", "\u0327\u0301")
	wantPieces(t, x, []rune("a\u0323\u0301\u0345"), of(1, 0, 2), of(3, 1, 3))
	wantPieces(t, x, []rune("a\u0338\u0323\u0301\u0345"), of(1, 0, 3), of(6, 1, 2, 4))
	wantPieces(t, x, []rune("a\u0338\u0327\u0323\u0301\u0345b"), of(1, 0, 4), of(6, 1, 3, 5), of(7, 2), rule('b', 6))
	// The one that was used is not used again.
	wantPieces(t, x, []rune("a\u0327\u0301"), of(1, 0, 2), of(7, 1))
	wantPieces(t, x, []rune("a\u0327\u0301\u0301"), of(1, 0, 2), of(8, 1, 3))
	// Nor does it block.
	wantPieces(t, x, []rune("a\u0327\u0301\u0302\u0301"), of(1, 0, 2), of(7, 1), rule(0x302, 3), rule(0x301, 4))
	// A mark at the front is as any other.
	wantPieces(t, x, []rune("\u0345\u0323\u0338"), of(6, 0, 1, 2))
	wantPieces(t, x, []rune("\u0301\u0338\u0345"), of(4, 0), rule(0x301, 1), rule(0x345, 2))
}

func TestAsLongAsAnEntryMayBe(t *testing.T) {
	l := []string{"a"}
	for _, r := range "\u0338\u0338\u0327\u0327\u0301\u0301\u0345" {
		l = append(l, l[len(l)-1]+string(r))
	}
	x := tableOf(t, l...)
	wantPieces(t, x, []rune(l[7]), of(7, 0, 1, 2, 3, 4, 5, 6, 7))
	wantPieces(t, x, []rune(l[7]+"\u0345"), of(7, 0, 1, 2, 3, 4, 5, 6, 7), rule(0x345, 8))
	wantPieces(t, x, []rune("a\u0338\u0338\u0327\u0327\u0323\u0301\u0301\u0345"), of(7, 0, 1, 2, 3, 4, 6, 7, 8), rule(0x323, 5))
	wantPieces(t, x, []rune("a\u0338\u0338\u0327\u0327\u0328\u0301\u0301\u0302\u0345"), of(7, 0, 1, 2, 3, 4, 6, 7, 9), rule(0x328, 5), rule(0x302, 8))
	wantPieces(t, x, []rune("a\u0338\u0338\u0338\u0327"), of(3, 0, 1, 2, 4), rule(0x338, 3))
}

// What is a mark, and of which class, is the table's own data's word.
func TestTheTablesOwnClasses(t *testing.T) {
	s := source(entry("a", weights(0)...), entry("ab", weights(1)...), entry("c", weights(2)...), entry("d", weights(3)...))
	a := load(t, build(t, nil, nil), s)
	wantPieces(t, a, []rune("acb"), of(0, 0), of(2, 1), rule('b', 2))
	wantPieces(t, a, []rune("a\u0301b"), of(0, 0), rule(0x301, 1), rule('b', 2))
	wantPieces(t, a, []rune("\u00e9"), rule(0xe9, 0))
	b := load(t, build(t, []api.Class{{From: 'b', To: 'b', Class: 5}, {From: 'c', To: 'c', Class: 4}, {From: 'd', To: 'd', Class: 5}}, nil), s)
	wantPieces(t, b, []rune("acb"), of(1, 0, 2), of(2, 1))
	wantPieces(t, b, []rune("abc"), of(1, 0, 2), of(2, 1))
	wantPieces(t, b, []rune("acdb"), of(0, 0), of(2, 1), of(3, 2), rule('b', 3))
	wantPieces(t, b, []rune("acbd"), of(1, 0, 2), of(2, 1), of(3, 3))
	c := load(t, build(t, []api.Class{{From: 'b', To: 'd', Class: 254}}, []api.Decomp{{Code: 'x', A: 'a', B: 'c'}, {Code: 'y', A: 'd', B: 'b'}}), s)
	wantPieces(t, c, []rune("x"), of(0, 0), of(2, 1))
	wantPieces(t, c, []rune("ay"), of(0, 0), of(3, 1), rule('b', 2))
}

func TestNoTable(t *testing.T) {
	for _, x := range notMade() {
		for what, l := range map[string][]rune{"nothing": nil, "a": {'a'}, "no code point": {-1}, "many": make([]rune, 4001)} {
			wantRefused(t, what, x, l, api.ErrTable)
		}
		for what, s := range map[string]string{"nothing": "", "a": "a", "no text": "\xff", "many": strings.Repeat("a", 4001)} {
			wantTextRefused(t, what, x, s, api.ErrTable)
		}
		want(t, "Most", elems.Most(x), 0)
	}
}

func TestNoCodePoints(t *testing.T) {
	x := small(t)
	for _, r := range []rune{-1, -1 << 31, 0xd800, 0xdbff, 0xdc00, 0xdfff, 0x110000, 1<<31 - 1} {
		for _, l := range [][]rune{{r}, {r, 'a'}, {'a', r}, {0x301, r, 0x323}, append(make([]rune, api.MaxCodes-1), r)} {
			wantRefused(t, "no code points", x, l, api.ErrRune)
		}
		wantRefused(t, "many", x, append(make([]rune, api.MaxCodes), r), api.ErrLong)
		wantRefused(t, "many", x, append([]rune{r}, make([]rune, api.MaxCodes)...), api.ErrLong)
		wantRefused(t, "very many", x, append(make([]rune, api.MaxRunes+1), r), api.ErrLong)
	}
	for _, r := range []rune{0, 0xd7ff, 0xe000, 0x10ffff} {
		if _, e := elems.Pieces(x, []rune{r}); e != api.OK {
			t.Errorf("Pieces of %x: error %d", r, e)
		}
	}
}

// manyOf is a list of n times the same.
func manyOf(n int, r rune) []rune { return slices.Repeat([]rune{r}, n) }

// As many as may be, ahead of normalising and behind it.
func TestAsManyAsMayBe(t *testing.T) {
	x := small(t)
	for what, c := range map[string]struct {
		l []rune
		n int // pieces; 0: it is too long
	}{
		"a":              {manyOf(4000, 'a'), 4000},
		"a, one more":    {manyOf(4001, 'a'), 0},
		"a, many more":   {manyOf(5000, 'a'), 0},
		"two":            {manyOf(2000, 0xe9), 4000},
		"two, one more":  {append(manyOf(2000, 0xe9), 'a'), 0},
		"two, one less":  {append(manyOf(1999, 0xe9), 'a'), 3999},
		"three":          {append(manyOf(1333, 0xac01), 'a'), 4000},
		"three, more":    {append(manyOf(1333, 0xac01), 'a', 'b'), 0},
		"three, as many": {manyOf(4000, 0xac01), 0},
		"marks":          {manyOf(4000, 0x301), 4000},
		"marks, more":    {append(manyOf(3999, 0x323), 0x344), 0},
		"marks, alpha":   {append(manyOf(3999, 0x323), 0x3b1), 4000},
		"a match":        {append(append([]rune{0x3b1}, manyOf(3998, 0x323)...), 0x301), 3999},
		"by rule":        {manyOf(4000, 0x4e00), 4000},
		"no element":     {manyOf(4000, 0), 4000},
	} {
		s := string(c.l)
		if c.n == 0 {
			wantRefused(t, what, x, c.l, api.ErrLong)
			wantTextRefused(t, what, x, s, api.ErrLong)
			continue
		}
		l, e := elems.Pieces(x, c.l)
		want(t, what+": Pieces' error", e, api.OK)
		want(t, what+": pieces", len(l), c.n)
		wantPieces(t, x, c.l, l...)
	}
}

// P13.2

func TestOf(t *testing.T) {
	x := small(t)
	for s, w := range map[string][]api.Element{
		"":                   nil,
		"\x00\u200d":         nil,
		"ab":                 {elem(0x510, 0x20, 2), elem(0x520, 0x20, 2)},
		"\u00e6":             {elem(0x510, 0x20, 4), elem(0, 0x110, 4), elem(0x550, 0x20, 4)},
		"\u00df\x00-":        {elem(0x630, 0x20, 4), elem(0x630, 0x20, 0x1f), varied(0x203, 0x20, 2)},
		"\u00e1":             {elem(0x510, 0x20, 2), elem(0, 0x24, 2)},
		"\u03b1\u0301\u0323": {elem(0x802, 0x20, 2), elem(0, 0x42, 2)},
		"\u4e00a":            {elem(0xfb40, 0x20, 2), elem(0xce00, 0, 0), elem(0x510, 0x20, 2)},
		"\U0010ffff":         {elem(0xfbe1, 0x20, 2), elem(0xffff, 0, 0)},
	} {
		got, e := elems.Of(x, []rune(s))
		want(t, "Of's error", e, api.OK)
		wantElements(t, "Of "+strconv.Quote(s), got, w)
		got, e = elems.String(x, s)
		want(t, "String's error", e, api.OK)
		wantElements(t, "String of "+strconv.Quote(s), got, w)
		wantElements(t, "Each of "+strconv.Quote(s), told(t, x, s), w)
	}
}

func TestNoText(t *testing.T) {
	x := small(t)
	long := strings.Repeat("a", 4001)
	for _, s := range []string{"\xff", "a\xff", "a\x80b", "\xed\xa0\x80", "\xc0\x80", "a\xe2\x82", "\xf4\x90\x80\x80", long + "\xff", "\xff" + long} {
		wantTextRefused(t, strconv.Quote(s[:min(len(s), 9)]), x, s, api.ErrUTF)
	}
	wantTextRefused(t, "a long one", x, long, api.ErrLong)
	// It is code points that count, not bytes.
	got, e := elems.String(x, strings.Repeat("\U0010ffff", 4000))
	want(t, "the error of the longest", e, api.OK)
	want(t, "elements of the longest", len(got), 8000)
	want(t, "what Each tells of the longest", len(told(t, x, strings.Repeat("\U0010ffff", 4000))), 8000)
	wantTextRefused(t, "one more", x, strings.Repeat("\U0010ffff", 4001), api.ErrLong)
}

// P13.3

func TestEach(t *testing.T) {
	x := tableOf(t, "a", "ab", "c\u0301", "c")
	s := "abac\u0323\u0301\x01"
	w, _ := elems.String(x, s)
	want(t, "elements", len(w), 7)
	each := elems.Each(x, s)
	for range 3 { // gone over again, from the first one on
		for most := range len(w) + 1 {
			var got []api.Element
			for number, one := range each {
				want(t, "number", number, len(got))
				got = append(got, one)
				if len(got) > most {
					break
				}
			}
			wantElements(t, "Each", got, w[:min(most+1, len(w))])
		}
	}
	for range each { // within one another
		wantElements(t, "Each", told(t, x, s), w)
		var got []api.Element
		for _, one := range each {
			got = append(got, one)
		}
		wantElements(t, "Each within itself", got, w)
	}
	// Left between elements of one piece.
	for number := range elems.Each(small(t), "\u00e6\u00e6") {
		if number == 1 {
			break
		}
		want(t, "number", number, 0)
	}
}

// What the one who ranges throws comes out as it was thrown.
func TestEachThrownOutOf(t *testing.T) {
	x := small(t)
	defer func() { want(t, "what comes out", recover(), any("mine")) }()
	for range elems.Each(x, "ab") {
		panic("mine")
	}
}

// P13.4

func TestMost(t *testing.T) {
	one := elem(1, 1, 1)
	for what, c := range map[string]struct {
		l []api.Entry
		w int
	}{
		"nothing": {nil, 2},
		"none":    {[]api.Entry{entry("a")}, 2},
		"one":     {[]api.Entry{entry("a", one)}, 2},
		"two":     {[]api.Entry{entry("a", one, one)}, 2},
		"three":   {[]api.Entry{entry("a", one, one, one)}, 3},
		"first":   {[]api.Entry{entry("a", one, one, one, one), entry("b", one)}, 4},
		"last":    {[]api.Entry{entry("a", one), entry("b", one, one, one), entry("cdefghij", one, one, one, one, one)}, 5},
		"within":  {[]api.Entry{entry("a", one), entry("b", one, one, one), entry("c")}, 3},
		"Level 0": {[]api.Entry{entry("a", elem(0, 0, 0), elem(0, 0, 0), elem(0, 0, 0))}, 3},
		"sixteen": {[]api.Entry{entry("b"), entry("a", slices.Repeat([]api.Element{one}, 16)...)}, 16},
	} {
		want(t, "Most of "+what, elems.Most(load(t, norms.Small(), source(c.l...))), c.w)
	}
	want(t, "Most of the small table", elems.Most(small(t)), 3)
}

// P4 of the whole: what is refused changes nothing that a later call could tell: the trie was not asked for.
func TestWhatIsRefusedChangesNothing(t *testing.T) {
	x := small(t)
	wantRefused(t, "no code point", x, []rune{-1}, api.ErrRune)
	wantRefused(t, "many", x, make([]rune, 4001), api.ErrLong)
	wantRefused(t, "many behind normalising", x, manyOf(2001, 0xe9), api.ErrLong)
	wantTextRefused(t, "no text", x, "\xff", api.ErrUTF)
	wantTextRefused(t, "many", x, strings.Repeat("a", 4001), api.ErrLong)
	wantTextRefused(t, "many behind normalising", x, strings.Repeat("\u00e9", 2001), api.ErrLong)
	want(t, "Made", x.Made(), 0)
	wantPieces(t, x, []rune("a"), api.Piece{At: []int{0}, Elements: []api.Element{elem(0x510, 0x20, 2)}})
	want(t, "Made", x.Made(), 1)
}

// P2 of the whole: nothing is shared, nothing that is given is changed, nothing behind an end is read or handed out.

func TestWhatIsGivenStays(t *testing.T) {
	x := small(t)
	given := []rune{'a', 0xe9, 0x3b1, 0x301, 0x323, 'b', -1}
	l := given[:5]
	pieces, _ := elems.Pieces(x, l)
	all, _ := elems.Of(x, l)
	wantPieces(t, x, l, pieces...)
	if !slices.Equal(given, []rune{'a', 0xe9, 0x3b1, 0x301, 0x323, 'b', -1}) {
		t.Errorf("what was given: %x", given)
	}
	shown := showPieces(pieces)
	clear(given)
	want(t, "the pieces", showPieces(pieces), shown)
	wantElements(t, "the elements", joined(pieces), all)
}

func TestAnswersShareNothing(t *testing.T) {
	x := small(t)
	l := []rune{'a', 'a', 0x4e00, 0x4e00, 0xe6, 0xe6, 0x3b1, 0x323, 0x301, 0x3b1, 0x301, 0}
	was, _ := elems.Pieces(x, l)
	shown, elements := showPieces(was), show(joined(was))
	for range 3 {
		pieces, _ := elems.Pieces(x, l)
		want(t, "room behind the pieces", cap(pieces), len(pieces))
		for i, p := range pieces {
			want(t, "a piece", showPieces(pieces[i:i+1]), showPieces(was[i:i+1]))
			want(t, "room behind the places", cap(p.At), len(p.At))
			want(t, "room behind the elements", cap(p.Elements), len(p.Elements))
			clear(p.At)
			clear(p.Elements)
		}
		clear(pieces)
		for _, call := range []func() ([]api.Element, api.Errno){
			func() ([]api.Element, api.Errno) { return elems.Of(x, l) },
			func() ([]api.Element, api.Errno) { return elems.String(x, string(l)) },
		} {
			all, _ := call()
			want(t, "the elements", show(all), elements)
			want(t, "room behind the elements", cap(all), len(all))
			clear(all)
		}
	}
	want(t, "the first answer", showPieces(was), shown)
	want(t, "what the table has", valid.Same(x.Source(), valid.Small()), true)
}

// However long lists have grown, there is no room behind their ends.
func TestNoRoomBehindAnyEnd(t *testing.T) {
	var l []string
	for long := range api.MaxSeq {
		l = append(l, "abcdefgh"[:long+1])
	}
	l = append(l, "a\u0301", "a\u0301\u0345")
	x := tableOf(t, l...)
	for _, s := range append(l, "a\u0323\u0301\u0302\u0345") {
		for n := range 20 {
			asked := []rune(strings.Repeat(s, n))
			pieces, _ := elems.Pieces(x, asked)
			want(t, "room behind the pieces", cap(pieces), len(pieces))
			for _, p := range pieces {
				want(t, "room behind the places", cap(p.At), len(p.At))
				want(t, "room behind the elements", cap(p.Elements), len(p.Elements))
			}
			all, _ := elems.Of(x, asked)
			want(t, "room behind all elements", cap(all), len(all))
		}
	}
}

func TestManyAskAtOnce(t *testing.T) {
	x := small(t)
	l := []rune("\u03b1\u0323\u0301ab\u00e6\u4e00")
	w, _ := elems.Pieces(small(t), l)
	var all sync.WaitGroup
	for range 8 {
		all.Go(func() {
			for range 20 {
				wantPieces(t, x, l, w...)
				want(t, "Most", elems.Most(x), 3)
			}
		})
	}
	all.Wait()
	want(t, "Made", x.Made(), 1)
}
