package table_test

import (
	"fmt"
	"math"
	"slices"
	"strings"
	"sync"
	"testing"

	"lectern/api"
	"lectern/table"
)

func wantErr(t testing.TB, what string, got, want api.Errno) {
	t.Helper()
	if got != want {
		t.Errorf("%s: error %d, want %d", what, got, want)
	}
}

func want[T comparable](t testing.TB, what string, got, want T) {
	t.Helper()
	if got != want {
		t.Errorf("%s: %v, want %v", what, got, want)
	}
}

func elem(p, s, t int) api.Element   { return api.Element{P: p, S: s, T: t} }
func varied(p, s, t int) api.Element { return api.Element{P: p, S: s, T: t, Var: true} }

func whole(from, to rune, base int) api.Implicit {
	return api.Implicit{From: from, To: to, Base: base, Whole: true}
}
func split(from, to rune, base int) api.Implicit { return api.Implicit{From: from, To: to, Base: base} }

// entry is one of these code points, with these elements.
func entry(codes []rune, l ...api.Element) api.Entry { return api.Entry{Codes: codes, Elements: l} }

// plain are n elements that may be.
func plain(n int) []api.Element { return slices.Repeat([]api.Element{elem(1, 1, 1)}, n) }

// letters are n entries of one code point each.
func letters(n int) []api.Entry {
	l := make([]api.Entry, n)
	for i := range l {
		l[i] = entry([]rune{rune(i)}, elem(1+i, 0x20, 2))
	}
	return l
}

// singles are n ranges of one code point each.
func singles(n int) []api.Implicit {
	l := make([]api.Implicit, n)
	for i := range l {
		l[i] = split(rune(i), rune(i), 0xfb40)
	}
	return l
}

// with is a table of these entries that lacks nothing else.
func with(l ...api.Entry) api.Source { return api.Source{Version: "1", Entries: l} }

// some is a table with a bit of everything, and its text.
func some() api.Source {
	return api.Source{
		Version: "9.0.0",
		Ranges:  []api.Implicit{split(0x3400, 0x4db5, 0xfb80), whole(0x17000, 0x187ec, 0xfb00), split(0x100000, 0x10ffff, 0xfb40)},
		Entries: []api.Entry{
			entry([]rune{0}), entry([]rune{0x20}, varied(0x209, 0x20, 2)), entry([]rune{0x41, 0x301}, elem(0x1c47, 0x20, 8), elem(0, 0x24, 2)),
			entry([]rune{0x41}, elem(0x1c47, 0x20, 8)), entry([]rune{0x10ffff}, elem(0, 0, 0x1f), varied(0xfaff, 0x1ff, 0x3f)),
		},
	}
}

func someText() string {
	return "@version 9.0.0\n@unified 3400..4DB5; FB80\n@implicitweights 17000..187EC; FB00\n@unified 100000..10FFFF; FB40\n" +
		"0000 ; \n0020 ; [*0209.0020.0002]\n0041 0301 ; [.1C47.0020.0008][.0000.0024.0002]\n0041 ; [.1C47.0020.0008]\n" +
		"10FFFF ; [.0000.0000.001F][*FAFF.01FF.003F]\n"
}

// same tells whether two tables are; a nil list and an empty one are the same.
func same(a, b api.Source) bool {
	return a.Version == b.Version && slices.Equal(a.Ranges, b.Ranges) && slices.EqualFunc(a.Entries, b.Entries, sameEntry)
}

func sameEntry(a, b api.Entry) bool {
	return slices.Equal(a.Codes, b.Codes) && slices.Equal(a.Elements, b.Elements)
}

// P8.1

func wantCheck(t testing.TB, what string, x api.Source, number int, err api.Errno) {
	t.Helper()
	got, e := table.Check(x)
	if got != number || e != err {
		t.Errorf("Check of %s: %d, error %d; want %d, error %d", what, got, e, number, err)
	}
	s, e := table.Write(x)
	if e != err || (e != api.OK) != (s == "") {
		t.Errorf("Write of %s: %d bytes, error %d; want error %d", what, len(s), e, err)
	}
}

func TestCheck(t *testing.T) {
	for _, x := range []api.Source{
		some(), {Version: "1"}, with(), {Version: "1", Ranges: []api.Implicit{}, Entries: []api.Entry{}}, {Version: "~!"}, {Version: "@version"}, {Version: "1;2"},
		{Version: strings.Repeat("v", 32)}, {Version: "!"}, {Version: "~"}, {Version: "1", Ranges: singles(100)},
		with(letters(4000)...), with(entry([]rune{0})), with(entry([]rune{1, 2, 3, 4, 5, 6, 7, 8}, plain(16)...)),
		with(entry([]rune{0xd7ff, 0xe000, 0x10ffff}, elem(0, 0, 1), elem(0, 1, 1), varied(0xfaff, 0x1ff, 0x3f))),
		with(entry([]rune{1}), entry([]rune{1, 1}), entry([]rune{1, 1, 1}), entry([]rune{1, 2}), entry([]rune{2, 1}), entry([]rune{2})), // no twins
		with(entry([]rune{0x12, 0x34}), entry([]rune{0x1234}), entry([]rune{0x123, 0x4}), entry([]rune{0x1, 0x234})),
		with(entry([]rune{1}, elem(1, 1, 1)), entry([]rune{2}, elem(1, 1, 1))),
	} {
		wantCheck(t, fmt.Sprintf("version %s", x.Version), x, 0, api.OK)
	}
}

func TestCheckOfVersions(t *testing.T) {
	for _, s := range []string{"", strings.Repeat("v", 33), strings.Repeat("#", 33), " ", "1 ", " 1", "a b", "a\tb", "a\nb", "1\n", "\r", "\x00", "\x1f", "a\x7f", "\x80", "é", "\xff", "1\x20"} {
		x := some()
		x.Version = s
		wantCheck(t, fmt.Sprintf("version %q", s), x, 0, api.ErrVersion)
	}
	for _, s := range []string{"#", "1#", "#1", "1#2", strings.Repeat("#", 32)} {
		x := some()
		x.Version = s
		wantCheck(t, fmt.Sprintf("version %q", s), x, 0, api.ErrLine)
	}
	for c := range 256 {
		x := api.Source{Version: "1" + string([]byte{byte(c)})}
		switch {
		case c == '#':
			wantCheck(t, fmt.Sprintf("version %q", x.Version), x, 0, api.ErrLine)
		case c < 33 || c > 126:
			wantCheck(t, fmt.Sprintf("version %q", x.Version), x, 0, api.ErrVersion)
		default:
			wantCheck(t, fmt.Sprintf("version %q", x.Version), x, 0, api.OK)
		}
	}
}

func TestCheckOfRanges(t *testing.T) {
	for what, x := range map[string][]api.Implicit{
		"ends": {split(5, 4, 0xfb40)}, "base": {split(4, 5, 0xfb00)}, "order": {split(4, 5, 0xfb40), split(1, 2, 0xfb40)}, "twice": {split(4, 5, 0xfb40), split(5, 6, 0xfb40)},
		"below 0": {split(-1, 5, 0xfb40)}, "above all": {split(1, 0x110000, 0xfb40)}, "too many that are whole": {whole(0, 0x8000, 0xfb00)}, "no base": {{}},
	} {
		wantCheck(t, what, api.Source{Version: "1", Ranges: x, Entries: []api.Entry{{}}}, 0, api.ErrImpl)
	}
	wantCheck(t, "101 ranges", api.Source{Version: "1", Ranges: singles(101), Entries: []api.Entry{{}}}, 0, api.ErrLong)
	wantCheck(t, "101 ranges", api.Source{Version: "1", Ranges: append(singles(100), api.Implicit{})}, 0, api.ErrLong)
}

// wrongEntries are such as may not be, with why.
func wrongEntries() map[api.Errno][]api.Entry {
	return map[api.Errno][]api.Entry{
		api.ErrSeq: {
			{}, entry([]rune{}), entry(nil, plain(1)...), entry([]rune{1, 2, 3, 4, 5, 6, 7, 8, 9}), entry(make([]rune, 5000)), entry([]rune{-1}), entry([]rune{0xd800}),
			entry([]rune{0xdfff}), entry([]rune{0xdabc}), entry([]rune{0x110000}), entry([]rune{math.MaxInt32}), entry([]rune{math.MinInt32}), entry([]rune{1, -1}),
			entry([]rune{1, 2, 3, 4, 5, 6, 7, 0xd800}), entry([]rune{0xdfff, 1}), entry([]rune{-1}, plain(17)...), entry([]rune{-1}, elem(0, 0, 0)),
		},
		api.ErrLong: {
			entry([]rune{1}, plain(17)...), entry([]rune{1}, plain(5000)...), entry([]rune{1}, make([]api.Element, 17)...), entry([]rune{1}, append(plain(16), elem(-1, 0, 0))...),
		},
		api.ErrWeight: {
			entry([]rune{1}, elem(0, 0, 0)), entry([]rune{1}, varied(0, 0, 0)), entry([]rune{1}, elem(-1, 1, 1)), entry([]rune{1}, elem(0xfb00, 1, 1)), entry([]rune{1}, elem(1, 0, 1)),
			entry([]rune{1}, elem(1, 1, 0)), entry([]rune{1}, elem(0, 1, 0)), entry([]rune{1}, varied(0, 1, 1)), entry([]rune{1}, elem(1, 0x200, 1)), entry([]rune{1}, elem(1, 1, 0x40)),
			entry([]rune{1}, append(plain(15), elem(0, 0, 0))...), entry([]rune{1}, append([]api.Element{{}}, plain(3)...)...), entry([]rune{1}, elem(math.MaxInt, 1, 1)),
		},
	}
}

func TestCheckOfEntries(t *testing.T) {
	for err, l := range wrongEntries() {
		for _, x := range l {
			what := fmt.Sprintf("%d code points %v and %d elements", len(x.Codes), x.Codes[:min(len(x.Codes), 9)], len(x.Elements))
			wantCheck(t, what, with(x), 0, err)
			wantCheck(t, what+" behind others", with(append(letters(7), x, entry(nil))...), 7, err)
			wantCheck(t, what+" ahead of a twin", with(entry([]rune{5}), x, entry([]rune{5})), 1, err)
			wantCheck(t, what+" behind a twin", with(entry([]rune{5}), entry([]rune{5}), x), 1, api.ErrTwin)
			wantCheck(t, what+" of twins", with(entry([]rune{1}), x), 1, err)
			_, e := table.Line(x)
			wantErr(t, "Line of "+what, e, err)
		}
	}
}

func TestCheckOfTwins(t *testing.T) {
	for _, l := range [][]rune{{0}, {5}, {0x10ffff}, {1, 2}, {2, 1}, {1, 1}, {1, 2, 3, 4, 5, 6, 7, 8}} {
		wantCheck(t, "twins", with(entry(l, plain(1)...), entry(slices.Clone(l))), 1, api.ErrTwin)
		wantCheck(t, "twins", with(entry([]rune{0x99}), entry(l), entry([]rune{0x98}), entry([]rune{0x97, 1}), entry(l, plain(2)...), entry(l), entry(nil)), 4, api.ErrTwin)
	}
	wantCheck(t, "the last as the first", with(append(letters(3999), entry([]rune{0}))...), 3999, api.ErrTwin)
}

func TestCheckOrder(t *testing.T) {
	x := api.Source{Version: "#" + strings.Repeat("v", 32), Ranges: singles(101), Entries: make([]api.Entry, 4001)}
	wantCheck(t, "all is wrong", x, 0, api.ErrVersion)
	x.Version = "#"
	wantCheck(t, "all but the length of the version", x, 0, api.ErrLine)
	x.Version = "1"
	wantCheck(t, "all but the version", x, 0, api.ErrLong)
	x.Ranges = []api.Implicit{{}}
	wantCheck(t, "too many entries and a wrong range", x, 0, api.ErrLong)
	x.Entries = x.Entries[:4000]
	wantCheck(t, "a wrong range", x, 0, api.ErrImpl)
	x.Ranges = nil
	wantCheck(t, "wrong entries", x, 0, api.ErrSeq)
	wantCheck(t, "4001 that may be", with(letters(4001)...), 0, api.ErrLong)
}

// P8.2

func wantFind(t testing.TB, x api.Source, codes []rune, number int, found bool) {
	t.Helper()
	if got, is := table.Find(x, codes); got != number || is != found {
		t.Errorf("Find of %x: %d, %t; want %d, %t", codes, got, is, number, found)
	}
}

func TestFind(t *testing.T) {
	x := some()
	for i, e := range x.Entries {
		wantFind(t, x, e.Codes, i, true)
		wantFind(t, x, append(slices.Clone(e.Codes), 0), 0, false)
		wantFind(t, x, append([]rune{1}, e.Codes...), 0, false)
	}
	for _, codes := range [][]rune{nil, {}, {0x301}, {0x301, 0x41}, {0x41, 0x41}, {0x42}, {-1}, {0x41, 0x301, 0x41}} {
		wantFind(t, x, codes, 0, false)
		wantFind(t, api.Source{}, codes, 0, false)
	}
	x = api.Source{Entries: []api.Entry{{}, entry([]rune{5}, plain(1)...), entry([]rune{5}), entry([]rune{-1, math.MinInt32}), entry([]rune{}), entry(make([]rune, 9))}} // any table
	wantFind(t, x, nil, 0, true)
	wantFind(t, x, []rune{}, 0, true)
	wantFind(t, x, []rune{5}, 1, true)
	wantFind(t, x, []rune{-1, math.MinInt32}, 3, true)
	wantFind(t, x, make([]rune, 9), 5, true)
	wantFind(t, x, make([]rune, 8), 0, false)
	x.Entries[0].Codes = []rune{7}
	wantFind(t, x, nil, 4, true)
}

type told struct {
	codes    string
	elements []api.Element
}

func allOf(x api.Source) []told {
	var l []told
	for codes, elements := range table.Each(x) {
		l = append(l, told{codes, elements})
	}
	return l
}

func wantTold(t testing.TB, got []told, want ...told) {
	t.Helper()
	if !slices.EqualFunc(got, want, func(a, b told) bool { return a.codes == b.codes && slices.Equal(a.elements, b.elements) }) {
		t.Errorf("Each: %v, want %v", got, want)
	}
}

func TestEach(t *testing.T) {
	wantTold(t, allOf(some()),
		told{"0000", nil}, told{"0020", []api.Element{varied(0x209, 0x20, 2)}}, told{"0041 0301", []api.Element{elem(0x1c47, 0x20, 8), elem(0, 0x24, 2)}},
		told{"0041", []api.Element{elem(0x1c47, 0x20, 8)}}, told{"10FFFF", []api.Element{elem(0, 0, 0x1f), varied(0xfaff, 0x1ff, 0x3f)}})
	wantTold(t, allOf(api.Source{}))
	wantTold(t, allOf(api.Source{Entries: []api.Entry{entry([]rune{5}, elem(-1, 7, math.MaxInt)), {}, entry([]rune{5}), entry([]rune{-1, 0xd800, 0x110000}, plain(20)...)}}),
		told{"0005", []api.Element{elem(-1, 7, math.MaxInt)}}, told{"", nil}, told{"0005", nil}, told{"FFFFFFFF D800 110000", plain(20)})
}

func TestEachIsLeft(t *testing.T) {
	each := table.Each(some())
	for most := 1; most <= 5; most++ {
		n := 0
		for range each {
			if n++; n == most {
				break
			}
		}
		want(t, "entries that were told", n, most)
	}
}

// P2 and P3 of the whole: nothing is shared, nothing that is given is changed, nothing behind an end is read or handed out.

func wantSame(t testing.TB, what string, got, want api.Source) {
	t.Helper()
	if !same(got, want) {
		t.Errorf("%s: %v, want %v", what, got, want)
	}
}

func TestEachSharesNothing(t *testing.T) {
	x := some()
	each := table.Each(x)
	x.Entries[2].Codes[0], x.Entries[2].Elements[0] = 7, api.Element{}
	x.Entries[3] = api.Entry{}
	for range 2 {
		var l []told
		for codes, elements := range each {
			l = append(l, told{codes, slices.Clone(elements)})
			want(t, "room behind the end", cap(elements), len(elements))
			clear(elements)
		}
		wantTold(t, l, allOf(some())...)
	}
	wantTold(t, allOf(x), told{"0000", nil}, told{"0020", []api.Element{varied(0x209, 0x20, 2)}}, told{"0007 0301", []api.Element{{}, elem(0, 0x24, 2)}},
		told{"", nil}, told{"10FFFF", []api.Element{elem(0, 0, 0x1f), varied(0xfaff, 0x1ff, 0x3f)}})
}

func TestParseSharesNothing(t *testing.T) {
	s := someText() + "0042 ; [.1C60.0020.0008][.0000.0024.0002]\n0043 0301 ; [.1C60.0020.0008][.0000.0024.0002]\n"
	was, _, e := table.Parse(s)
	wantErr(t, "Parse", e, api.OK)
	got, _, _ := table.Parse(s)
	want(t, "room behind the ranges", cap(got.Ranges), len(got.Ranges))
	want(t, "room behind the entries", cap(got.Entries), len(got.Entries))
	for i := range got.Entries {
		x, y := &got.Entries[i], was.Entries[i]
		want(t, "room behind the code points", cap(x.Codes), len(x.Codes))
		want(t, "room behind the elements", cap(x.Elements), len(x.Elements))
		if !sameEntry(*x, y) {
			t.Errorf("entry %d: %v, want %v, behind a change of others", i, *x, y)
		}
		clear(x.Codes)
		clear(x.Elements)
	}
	clear(got.Ranges)
	got, _, _ = table.Parse(s)
	wantSame(t, "Parse again", got, was)
}

func TestOthersShareNothing(t *testing.T) {
	for range 2 {
		l, _ := table.Codes("0041 0301 0302")
		want(t, "room behind the end", cap(l), len(l))
		want(t, "Codes", table.Show(l), "0041 0301 0302")
		clear(l)
		x, _ := table.ReadLine("0041 0301 0302 ; [.0001.0001.0001][.0000.0001.0001] [.0000.0000.0001]")
		want(t, "room behind the code points", cap(x.Codes), len(x.Codes))
		want(t, "room behind the elements", cap(x.Elements), len(x.Elements))
		if !sameEntry(x, entry([]rune{0x41, 0x301, 0x302}, elem(1, 1, 1), elem(0, 1, 1), elem(0, 0, 1))) {
			t.Errorf("ReadLine: %v", x)
		}
		clear(x.Codes)
		clear(x.Elements)
	}
}

func TestWhatIsGivenStays(t *testing.T) {
	x, bad := some(), entry([]rune{-1}, elem(0, 0, 0))
	x.Ranges = append(x.Ranges, api.Implicit{})[:3]
	x.Entries = append(x.Entries, bad)[:5]
	e := &x.Entries[2]
	e.Codes, e.Elements = append(e.Codes, -1)[:2], append(e.Elements, elem(0, 0, 0))[:2]
	wantCheck(t, "what has more behind its ends", x, 0, api.OK)
	s, _ := table.Write(x)
	want(t, "Write", s, someText())
	wantTold(t, allOf(x), allOf(some())...)
	wantFind(t, x, append([]rune{0x41, 0x301}, 5)[:2], 2, true)
	wantFind(t, x, bad.Codes, 0, false)
	line, _ := table.Line(*e)
	want(t, "Line", line, "0041 0301 ; [.1C47.0020.0008][.0000.0024.0002]")
	want(t, "Show", table.Show(e.Codes), "0041 0301")
	wantSame(t, "what was given", x, some())
	if x.Ranges[:4][3] != (api.Implicit{}) || !sameEntry(x.Entries[:6][5], bad) || e.Codes[:3][2] != -1 || e.Elements[:3][2] != (api.Element{}) {
		t.Error("what lies behind the ends of what was given has changed")
	}
}

func TestManyAskAtOnce(t *testing.T) {
	x := some()
	each := table.Each(x)
	var all sync.WaitGroup
	for range 16 {
		all.Go(func() {
			wantCheck(t, "some", x, 0, api.OK)
			got, _, _ := table.Parse(someText())
			wantSame(t, "Parse", got, x)
			wantFind(t, x, []rune{0x41}, 3, true)
			n := 0
			for range each {
				n++
			}
			want(t, "Each", n, 5)
			_, at, e := table.Parse("@version 1\n\n0041")
			want(t, "a wrong line", at, 3)
			wantErr(t, "a wrong line", e, api.ErrLine)
		})
	}
	all.Wait()
}
