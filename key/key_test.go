package key_test

import (
	"bytes"
	"cmp"
	"encoding/hex"
	"slices"
	"strings"
	"sync"
	"testing"

	"lectern/api"
	"lectern/elems"
	"lectern/key"
	"lectern/norms"
	"lectern/pack"
	"lectern/table"
	"lectern/valid"
	"lectern/weight"
)

func want[T comparable](t testing.TB, what string, got, want T) {
	t.Helper()
	if got != want {
		t.Errorf("%s: %v, want %v", what, got, want)
	}
}

func elem(p, s, t int) api.Element { return api.Element{P: p, S: s, T: t} }

func varied(p, s, t int) api.Element { return api.Element{P: p, S: s, T: t, Var: true} }

func entry(codes string, l ...api.Element) api.Entry {
	return api.Entry{Codes: []rune(codes), Elements: l}
}

func source(l ...api.Entry) api.Source {
	return api.Source{Version: "1", Ranges: weight.Unified(), Entries: l}
}

// load is pack's Load of Make of what has to succeed.
func load(t testing.TB, data []byte, s api.Source) *pack.Table {
	t.Helper()
	b, at, e := pack.Make(data, s)
	if e != api.OK {
		t.Fatalf("pack.Make: place %d, error %d", at, e)
	}
	x, e := pack.Load(b)
	if e != api.OK {
		t.Fatalf("pack.Load: error %d", e)
	}
	return x
}

// small is the small table with the small data.
func small(t testing.TB) *pack.Table {
	t.Helper()
	return load(t, norms.Small(), valid.Small())
}

// kinds has an element of each kind, alone and with others: Var ones under - and =, Level 1 under a and b, Level 2 under 2, Level 3
// under 3, Level 0 under 0; others are told by what is in them.
func kinds(t testing.TB) *pack.Table {
	t.Helper()
	v, w := varied(0x10, 0x20, 2), varied(0x11, 0x21, 3)
	a, b := elem(0x100, 0x20, 2), elem(0x101, 0x22, 4)
	two, three, none := elem(0, 0x40, 5), elem(0, 0, 0x20), api.Element{}
	return load(t, norms.Small(), source(
		entry("-", v), entry("=", w), entry("a", a), entry("b", b), entry("2", two), entry("3", three), entry("0", none), entry("n"),
		entry("A", none, two, a, three, none, b), entry("V", three, v, none, two, w), entry("X", two, three), entry("0n", none, none)))
}

// notMade are tables that Load did not make.
func notMade() []*pack.Table { return []*pack.Table{nil, {}, new(pack.Table)} }

var both = []bool{false, true}

func many(n, w int) []int { return slices.Repeat([]int{w}, n) }

func sameLevels(a, b [][]int) bool { return slices.EqualFunc(a, b, slices.Equal) }

func raw(t testing.TB, s string) []byte {
	t.Helper()
	b, err := hex.DecodeString(strings.ReplaceAll(s, " ", ""))
	if err != nil {
		t.Fatal(err)
	}
	return b
}

// levelsOf, keyOf and bytesOf are what calls that have to succeed answer.
func levelsOf(t testing.TB, x *pack.Table, s string, shifted bool) ([][]int, []rune) {
	t.Helper()
	levels, codes, e := key.Levels(x, s, shifted)
	want(t, "Levels' error", e, api.OK)
	return levels, codes
}

func keyOf(t testing.TB, x *pack.Table, s string, shifted bool) []byte {
	t.Helper()
	b, e := key.Key(x, s, shifted)
	want(t, "Key's error", e, api.OK)
	return b
}

func bytesOf(t testing.TB, levels [][]int, codes []rune) []byte {
	t.Helper()
	b, e := key.Bytes(levels, codes)
	want(t, "Bytes' error", e, api.OK)
	return b
}

// told is all that Each tells, a list a level.
func told(t testing.TB, x *pack.Table, s string, shifted bool) [][]int {
	t.Helper()
	out := make([][]int, 3)
	if shifted {
		out = make([][]int, 4)
	}
	last := 1
	for level, w := range key.Each(x, s, shifted) {
		if level < last || level > len(out) {
			t.Fatalf("Each of %q: level %d behind %d", s, level, last)
		}
		last = level
		out[level-1] = append(out[level-1], w)
	}
	return out
}

// wantLevels holds all calls of a text that may be against its weights.
func wantLevels(t testing.TB, x *pack.Table, s string, shifted bool, codes string, w ...[]int) {
	t.Helper()
	levels, l := levelsOf(t, x, s, shifted)
	if !sameLevels(levels, w) || string(l) != codes {
		t.Errorf("Levels of %q, shifted %t: %x, %s; want %x, %s", s, shifted, levels, table.Show(l), w, table.Show([]rune(codes)))
	}
	if got := told(t, x, s, shifted); !sameLevels(got, w) {
		t.Errorf("Each of %q, shifted %t: %x; want %x", s, shifted, got, w)
	}
	want(t, "Key of "+s, string(keyOf(t, x, s, shifted)), string(bytesOf(t, w, []rune(codes))))
}

// wantRefused holds the calls of a text that may not be against its error.
func wantRefused(t testing.TB, what string, x *pack.Table, s string, err api.Errno) {
	t.Helper()
	for _, shifted := range both {
		if levels, codes, e := key.Levels(x, s, shifted); levels != nil || codes != nil || e != err {
			t.Errorf("Levels of %s: %x, %x, error %d; want error %d", what, levels, codes, e, err)
		}
		if b, e := key.Key(x, s, shifted); b != nil || e != err {
			t.Errorf("Key of %s: %x, error %d; want error %d", what, b, e, err)
		}
		for level, w := range key.Each(x, s, shifted) {
			t.Errorf("Each of %s: %x on level %d; want none", what, w, level)
			break
		}
	}
}

// The chapter's examples, and P14.1

func TestExample(t *testing.T) {
	x := small(t)
	want(t, "Key of a", hex.EncodeToString(keyOf(t, x, "a", false)), hex.EncodeToString(raw(t, "05 10 00 00 00 20 00 00 00 02 00 00 00 00 62 00 00 00")))
	levels, _ := levelsOf(t, x, "a-b", true)
	want(t, "levels", len(levels), 4)
	want(t, "the fourth level", slices.Equal(levels[3], []int{0xffff, 0x203, 0xffff}), true)
	want(t, "Key of a, shifted", hex.EncodeToString(keyOf(t, x, "a", true)),
		hex.EncodeToString(raw(t, "05 10 00 00 00 20 00 00 00 02 00 00 ff ff 00 00 00 00 62 00 00 00")))
}

func TestLevels(t *testing.T) {
	x := small(t)
	wantLevels(t, x, "", false, "", nil, nil, nil)
	wantLevels(t, x, "\x00\u200d", false, "\x00\u200d", nil, nil, nil)
	wantLevels(t, x, "ab", false, "ab", []int{0x510, 0x520}, []int{0x20, 0x20}, []int{2, 2})
	wantLevels(t, x, "A-b", false, "A-b", []int{0x510, 0x203, 0x520}, []int{0x20, 0x20, 0x20}, []int{8, 2, 2})
	// It is the normalised text of which the code points are told.
	wantLevels(t, x, "\u00e1", false, "a\u0301", []int{0x510}, []int{0x20, 0x24}, []int{2, 2})
	wantLevels(t, x, "\u1ead", false, "a\u0323\u0302", []int{0x510}, []int{0x20, 0x42, 0x27}, []int{2, 2, 2})
	wantLevels(t, x, "a\u0302\u0323", false, "a\u0323\u0302", []int{0x510}, []int{0x20, 0x42, 0x27}, []int{2, 2, 2})
	wantLevels(t, x, "\u0301", false, "\u0301", nil, []int{0x24}, []int{2})
	wantLevels(t, x, "\u00e6", false, "\u00e6", []int{0x510, 0x550}, []int{0x20, 0x110, 0x20}, []int{4, 4, 4})
	// By rule: the second one has weights on the first level alone.
	wantLevels(t, x, "\u4e00a", false, "\u4e00a", []int{0xfb40, 0xce00, 0x510}, []int{0x20, 0x20}, []int{2, 2})
	// The code points are told as they stand, whatever marks were met further on.
	wantLevels(t, x, "\u03b1\u0301\u0323", false, "\u03b1\u0323\u0301", []int{0x802}, []int{0x20, 0x42}, []int{2, 2})
}

func TestEachKind(t *testing.T) {
	x := kinds(t)
	for s, w := range map[string][][]int{
		"-":   {{0x10}, {0x20}, {2}},
		"-a":  {{0x10, 0x100}, {0x20, 0x20}, {2, 2}},
		"-2":  {{0x10}, {0x20, 0x40}, {2, 5}},
		"2":   {nil, {0x40}, {5}},
		"3":   {nil, nil, {0x20}},
		"0":   {nil, nil, nil},
		"n":   {nil, nil, nil},
		"ba":  {{0x101, 0x100}, {0x22, 0x20}, {4, 2}},
		"A":   {{0x100, 0x101}, {0x40, 0x20, 0x22}, {5, 2, 0x20, 4}},
		"V":   {{0x10, 0x11}, {0x20, 0x40, 0x21}, {0x20, 2, 5, 3}},
		"32b": {{0x101}, {0x40, 0x22}, {0x20, 5, 4}},
	} {
		wantLevels(t, x, s, false, s, w...)
	}
}

func TestShifted(t *testing.T) {
	x := kinds(t)
	const f = 0xffff
	for s, w := range map[string][][]int{
		"":  {nil, nil, nil, nil},
		"a": {{0x100}, {0x20}, {2}, {f}},
		"2": {nil, {0x40}, {5}, {f}},
		"3": {nil, nil, {0x20}, {f}},
		"0": {nil, nil, nil, nil},
		"n": {nil, nil, nil, nil},
		// A Var one counts on the fourth alone, wherever it stands.
		"-":   {nil, nil, nil, {0x10}},
		"-=-": {nil, nil, nil, {0x10, 0x11, 0x10}},
		"a-b": {{0x100, 0x101}, {0x20, 0x22}, {2, 4}, {f, 0x10, f}},
		"-a":  {{0x100}, {0x20}, {2}, {0x10, f}},
		"a-":  {{0x100}, {0x20}, {2}, {f, 0x10}},
		// What is of Level 2 or 3 behind it counts for nothing at all, up to the next of Level 1.
		"-2":     {nil, nil, nil, {0x10}},
		"-3":     {nil, nil, nil, {0x10}},
		"-23-32": {nil, nil, nil, {0x10, 0x10}},
		"-2a2":   {{0x100}, {0x20, 0x40}, {2, 5}, {0x10, f, f}},
		"-a3":    {{0x100}, {0x20}, {2, 0x20}, {0x10, f, f}},
		"-=2a=3": {{0x100}, {0x20}, {2}, {0x10, 0x11, f, 0x11}},
		// Not ahead of it.
		"2-":  {nil, {0x40}, {5}, {f, 0x10}},
		"3-2": {nil, nil, {0x20}, {f, 0x10}},
		"2-a": {{0x100}, {0x40, 0x20}, {5, 2}, {f, 0x10, f}},
		// Those of Level 0 have nothing on any level, and part nothing.
		"-02":    {nil, nil, nil, {0x10}},
		"-n0n2":  {nil, nil, nil, {0x10}},
		"-0203a": {{0x100}, {0x20}, {2}, {0x10, f}},
		"0-0":    {nil, nil, nil, {0x10}},
		"a02":    {{0x100}, {0x20, 0x40}, {2, 5}, {f, f}},
		// Within an entry it is as among several ones.
		"A":   {{0x100, 0x101}, {0x40, 0x20, 0x22}, {5, 2, 0x20, 4}, {f, f, f, f}},
		"-A":  {{0x100, 0x101}, {0x20, 0x22}, {2, 0x20, 4}, {0x10, f, f, f}},
		"V":   {nil, nil, {0x20}, {f, 0x10, 0x11}},
		"V3a": {{0x100}, {0x20}, {0x20, 2}, {f, 0x10, 0x11, f}},
		"-VX": {nil, nil, nil, {0x10, 0x10, 0x11}},
		"X-X": {nil, {0x40}, {5, 0x20}, {f, f, 0x10}},
	} {
		wantLevels(t, x, s, true, s, w...)
	}
	// One by rule has two elements of Level 1.
	wantLevels(t, x, "-\u4e002", true, "-\u4e002", []int{0xfb40, 0xce00}, []int{0x20, 0x40}, []int{2, 5}, []int{0x10, f, f, f})
	y := small(t)
	wantLevels(t, y, " \u0301a", true, " \u0301a", []int{0x510}, []int{0x20}, []int{2}, []int{0x201, f})
	wantLevels(t, y, "\u00e1\u200d\u0323-", true, "a\u0301\u200d\u0323-", []int{0x510}, []int{0x20, 0x24, 0x42}, []int{2, 2, 2}, []int{f, f, f, 0x203})
}

func TestNoLevels(t *testing.T) {
	for _, x := range notMade() {
		for _, s := range []string{"", "a", "\xff", strings.Repeat("a", api.MaxCodes+1)} {
			wantRefused(t, "no table", x, s, api.ErrTable)
		}
	}
	x := small(t)
	for _, s := range []string{"\xff", "a\x80", "\xe2\x82", "\xed\xa0\x80", "\xc0\x80", "\xf4\x90\x80\x80", strings.Repeat("a", api.MaxCodes+1) + "\xff"} {
		wantRefused(t, "no text", x, s, api.ErrUTF)
	}
	// Ahead of normalising, and behind it.
	for _, s := range []string{strings.Repeat("a", api.MaxCodes+1), strings.Repeat("\x00", 5000), strings.Repeat("\u00e1", api.MaxCodes/2+1), strings.Repeat("a", 1<<20)} {
		wantRefused(t, "too many", x, s, api.ErrLong)
	}
	want(t, "Made", x.Made(), 0)
	for _, s := range []string{strings.Repeat("\x00", api.MaxCodes), strings.Repeat("\u00e1", api.MaxCodes/2)} {
		levels, codes := levelsOf(t, x, s, false)
		want(t, "levels", len(levels), 3)
		want(t, "code points", len(codes), api.MaxCodes)
	}
}

// P14.2

func TestBytes(t *testing.T) {
	for _, c := range []struct {
		levels [][]int
		codes  []rune
		b      string
	}{
		{make([][]int, 3), nil, "0000 0000 0000 000000"},
		{make([][]int, 4), nil, "0000 0000 0000 0000 000000"},
		{[][]int{{}, nil, {}}, []rune{}, "0000 0000 0000 000000"},
		{[][]int{{1}, {0xffff}, {0x100}}, []rune{0}, "0001 0000 ffff 0000 0100 0000 000001 000000"},
		{[][]int{{1, 2, 3}, {}, {0x1234}}, []rune{0x10ffff, 0xff, 0xd7ff, 0xe000}, "0001 0002 0003 0000 0000 1234 0000 110000 000100 00d800 00e001 000000"},
		{[][]int{{}, {}, {}, {0xff, 0xff00}}, []rune("ab"), "0000 0000 0000 00ff ff00 0000 000062 000063 000000"},
		{[][]int{{5}, {6}, {7}, {8}}, []rune{0xfffe, 0xffff, 0x10000}, "0005 0000 0006 0000 0007 0000 0008 0000 00ffff 010000 010001 000000"},
	} {
		want(t, "Bytes", hex.EncodeToString(bytesOf(t, c.levels, c.codes)), hex.EncodeToString(raw(t, c.b)))
		wantRead(t, raw(t, c.b), len(c.levels) == 4, c.levels, c.codes)
	}
}

func TestNoBytes(t *testing.T) {
	refused := func(levels [][]int, codes []rune, err api.Errno) {
		t.Helper()
		if b, e := key.Bytes(levels, codes); b != nil || e != err {
			t.Errorf("Bytes of %d levels, %d code points: %x, error %d; want error %d", len(levels), len(codes), b, e, err)
		}
	}
	for _, n := range []int{0, 1, 2, 5, 6, 100} {
		refused(make([][]int, n), nil, api.ErrRange)
		refused(slices.Repeat([][]int{{1}}, n), []rune("a"), api.ErrRange)
	}
	refused(nil, nil, api.ErrRange)
	for _, w := range []int{0, -1, 0x10000, -0x10000, 0x10001, 1 << 40, -1 << 63, 1<<63 - 1} {
		for n := range 4 {
			levels := [][]int{{1, 2}, {1, 2}, {1, 2}, {1, 2}}
			levels[n][1] = w
			refused(levels, nil, api.ErrRange)
			if n < 3 {
				refused(levels[:3], nil, api.ErrRange)
			}
		}
	}
	for _, r := range []rune{-1, 0xd800, 0xdabc, 0xdfff, 0x110000, 1<<31 - 1, -1 << 31} {
		refused(make([][]int, 3), []rune{r}, api.ErrRange)
		refused(make([][]int, 4), []rune{'a', r}, api.ErrRange)
		// Where there would be too many as well, that is told first.
		refused([][]int{many(api.MaxSort, 1), nil, nil}, []rune{r}, api.ErrRange)
	}
	refused([][]int{many(api.MaxSort, 1)}, nil, api.ErrRange)
	refused([][]int{many(api.MaxSort, 0), nil, nil}, nil, api.ErrRange)
	refused([][]int{append(many(api.MaxSort, 1), 0), nil, nil}, nil, api.ErrRange)
	refused([][]int{many(api.MaxSort, 1), nil, nil}, nil, api.ErrLong)
	refused([][]int{nil, nil, nil}, make([]rune, api.MaxSort), api.ErrLong)
}

// The bytes of three levels are 9, of four 11, and 2 for each weight, 3 for each code point.
func TestLongestBytes(t *testing.T) {
	for _, c := range []struct {
		levels         [4]int
		codes, n, long int
	}{
		{[4]int{32762}, 1, 3, api.MaxSort},
		{[4]int{32763}, 1, 3, api.MaxSort + 2},
		{[4]int{32763}, 0, 3, api.MaxSort - 1},
		{[4]int{32764}, 0, 3, api.MaxSort + 1},
		{[4]int{0, 1, 32758}, 3, 3, api.MaxSort},
		{[4]int{1, 1, 32758}, 3, 3, api.MaxSort + 2},
		{[4]int{1}, 21841, 3, api.MaxSort - 2},
		{[4]int{2}, 21841, 3, api.MaxSort},
		{[4]int{0}, 21842, 3, api.MaxSort - 1},
		{[4]int{0}, 21843, 3, api.MaxSort + 2},
		{[4]int{0, 0, 0, 32761}, 1, 4, api.MaxSort},
		{[4]int{32761, 0, 0, 1}, 1, 4, api.MaxSort + 2},
		{[4]int{8000, 8000, 8000, 8761}, 1, 4, api.MaxSort},
		{[4]int{8000, 8000, 8000, 8762}, 0, 4, api.MaxSort - 1},
		{[4]int{8000, 8000, 8000, 8763}, 0, 4, api.MaxSort + 1},
	} {
		var levels [][]int
		for i := range c.n {
			levels = append(levels, many(c.levels[i], 0x100*i+7))
		}
		codes := slices.Repeat([]rune{0x10ffff}, c.codes)
		b, e := key.Bytes(levels, codes)
		if c.long > api.MaxSort {
			want(t, "Bytes' error of too many", e, api.ErrLong)
			want(t, "bytes", len(b), 0)
			continue
		}
		want(t, "Bytes' error", e, api.OK)
		want(t, "bytes", len(b), c.long)
		wantRead(t, b, c.n == 4, levels, codes)
	}
}

func TestKey(t *testing.T) {
	x := small(t)
	for _, s := range []string{"", "a", "a-b", "\u00e6\u4e00\x00", "-\u0301", strings.Repeat("a", api.MaxCodes)} {
		for _, shifted := range both {
			levels, codes := levelsOf(t, x, s, shifted)
			want(t, "Key", string(keyOf(t, x, s, shifted)), string(bytesOf(t, levels, codes)))
		}
	}
}

// Under the small table each U+00E6 has 8 weights, shifted 11, in all 19 or 25 bytes, each a 9 or 11, U+0301 7 or 9, U+0000 3.
func TestLongestKey(t *testing.T) {
	for _, c := range []struct {
		ae, a, acute, nought int
		shifted              bool
		long                 int
	}{
		{3448, 1, 0, 2, false, api.MaxSort},
		{3448, 0, 1, 2, false, api.MaxSort - 2},
		{3448, 0, 1, 3, false, api.MaxSort + 1},
		{3449, 0, 0, 0, false, 65540},
		{4000, 0, 0, 0, false, 76009},
		{2619, 2, 1, 6, true, 65535},
		{2620, 0, 0, 7, true, 65532},
		{2620, 0, 0, 8, true, 65535},
		{2620, 0, 0, 9, true, 65538},
		{2620, 1, 0, 4, true, 65534},
		{2620, 1, 0, 5, true, 65537},
		{2620, 0, 2, 2, true, 65535},
		{2620, 2, 0, 1, true, 65536},
		{2619, 3, 0, 6, true, 65537},
	} {
		s := strings.Repeat("\u00e6", c.ae) + strings.Repeat("a", c.a) + strings.Repeat("\u0301", c.acute) + strings.Repeat("\x00", c.nought)
		for _, asked := range both {
			wantLong(t, s, c.shifted, asked, c.long)
		}
	}
}

// wantLong holds Key of s against how many bytes it would have; asked: the table's trie was asked for ahead.
func wantLong(t *testing.T, s string, shifted, asked bool, long int) {
	t.Helper()
	x := small(t)
	if asked {
		x.Trie()
	}
	made := x.Made()
	levels, codes := levelsOf(t, small(t), s, shifted)
	b, e := key.Key(x, s, shifted)
	if long > api.MaxSort {
		want(t, "Key's error of too long a one", e, api.ErrLong)
		want(t, "bytes", len(b), 0)
		want(t, "Made", x.Made(), made)
		_, e = key.Bytes(levels, codes)
		want(t, "Bytes' error of too many", e, api.ErrLong)
		return
	}
	want(t, "Key's error", e, api.OK)
	want(t, "bytes", len(b), long)
	want(t, "Key", string(b), string(bytesOf(t, levels, codes)))
	want(t, "Made", x.Made(), 1)
}

// P14.3

func wantRead(t testing.TB, b []byte, shifted bool, levels [][]int, codes []rune) {
	t.Helper()
	got, l, e := key.Read(b, shifted)
	if e != api.OK || !sameLevels(got, levels) || !slices.Equal(l, codes) {
		t.Errorf("Read of %x: %x, %s, error %d; want %x, %s", b[:min(len(b), 100)], got, table.Show(l), e, levels, table.Show(codes))
	}
	s, e := key.Text(b, shifted)
	want(t, "Text's error", e, api.OK)
	want(t, "Text", s, string(codes))
	want(t, "Whole", key.Whole(b, shifted), true)
}

func wantNoKey(t testing.TB, what string, b []byte, shifted bool, err api.Errno) {
	t.Helper()
	if levels, codes, e := key.Read(b, shifted); levels != nil || codes != nil || e != err {
		t.Errorf("Read of %s, %x: %x, %x, error %d; want error %d", what, b[:min(len(b), 100)], levels, codes, e, err)
	}
	s, e := key.Text(b, shifted)
	want(t, "Text's error of "+what, e, err)
	want(t, "Text of "+what, s, "")
	want(t, "Whole of "+what, key.Whole(b, shifted), false)
}

func TestRead(t *testing.T) {
	x := small(t)
	for _, shifted := range both {
		for _, s := range []string{"", "a", "-", "a-b", "\x00\u200d", "\u00e6\U0010ffff\u4e00", strings.Repeat("a", 4000)} {
			levels, codes := levelsOf(t, x, s, shifted)
			wantRead(t, keyOf(t, x, s, shifted), shifted, levels, codes)
		}
		s, e := key.Text(keyOf(t, x, "\u00e1 \u1ead", shifted), shifted)
		want(t, "Text's error", e, api.OK)
		want(t, "Text", s, "a\u0301 a\u0323\u0302")
	}
	// The text is told as it is written there, be it one that no NFD is.
	wantRead(t, raw(t, "0000 0001 0000 0000 000302 0000e2 000000"), false, [][]int{nil, {1}, nil}, []rune{0x301, 0xe1})
}

func TestNoKey(t *testing.T) {
	for _, shifted := range both {
		for _, b := range []string{"", "00", "0000", "000000", "0000 0000 0000 0000", "0000 0000 0000 000001", "05 10 00 00", "ff", "ffff"} {
			wantNoKey(t, "too short a one", raw(t, b), shifted, api.ErrSort)
		}
		wantNoKey(t, "nothing", nil, shifted, api.ErrSort)
	}
	for _, c := range []struct {
		what, b string
		shifted bool
	}{
		{"a byte behind", "0000 0000 0000 000000 00", false},
		{"two behind", "0000 0000 0000 000000 0000", false},
		{"three behind", "0000 0000 0000 000000 000000", false},
		{"a byte behind", "0000 0000 0000 0000 000000 ff", true},
		{"one of three levels", "0001 0000 0002 0000 0003 0000 000062 000000", true},
		{"one of four levels", "0001 0000 0002 0000 0003 0000 ffff 0000 000062 000000", false},
		{"the first surrogate", "0000 0000 0000 00d801 000000", false},
		{"a surrogate", "0000 0000 0000 000062 00dabc 000062 000000", false},
		{"the last surrogate", "0000 0000 0000 0000 00e000 000000", true},
		{"above all", "0000 0000 0000 110001 000000", false},
		{"far above all", "0000 0000 0000 0000 000062 ffffff 000000", true},
		{"no end", "0000 0000 0000 000062", false},
		{"half an end", "0000 0000 0000 000062 0000", false},
		{"half a weight", "0000 0000 00", false},
		{"half a code point", "0000 0000 0000 0000", false},
	} {
		wantNoKey(t, c.what, raw(t, c.b), c.shifted, api.ErrSort)
	}
	wantRead(t, raw(t, "0000 0000 0000 00d800 00e001 110000 000000"), false, make([][]int, 3), []rune{0xd7ff, 0xe000, 0x10ffff})
}

func TestBeginnings(t *testing.T) {
	x := small(t)
	for _, s := range []string{"", "a", "a-b", "\u00e6\u4e00"} {
		for _, shifted := range both {
			b := keyOf(t, x, s, shifted)
			for n := range b {
				wantNoKey(t, "a beginning", b[:n:n], shifted, api.ErrSort)
			}
			for _, more := range []string{"\x00", "\x01", "\x00\x00\x00", string(b)} {
				wantNoKey(t, "more than one", append(slices.Clip(b), more...), shifted, api.ErrSort)
			}
		}
	}
}

func TestTooLong(t *testing.T) {
	for _, shifted := range both {
		wantNoKey(t, "noughts", make([]byte, api.MaxSort), shifted, api.ErrSort)
		wantNoKey(t, "too many noughts", make([]byte, api.MaxSort+1), shifted, api.ErrLong)
		wantNoKey(t, "too many", bytes.Repeat([]byte{1}, 1<<20), shifted, api.ErrLong)
		// One that has too many, but is as it should be.
		ends := 4
		if shifted {
			ends = 6
		}
		b := slices.Concat(bytes.Repeat([]byte{1, 2}, (api.MaxSort-ends-2)/2), make([]byte, ends), make([]byte, 5))
		want(t, "bytes", len(b), api.MaxSort+3)
		wantNoKey(t, "too long a one", b, shifted, api.ErrLong)
		short := slices.Delete(slices.Clone(b), 0, 4)
		want(t, "bytes", len(short), api.MaxSort-1)
		want(t, "Whole of the longest", key.Whole(short, shifted), true)
	}
}

// P14.4

func TestEach(t *testing.T) {
	x := small(t)
	type one struct{ level, w int }
	var got []one
	each := key.Each(x, "A-\u0301b\u00e1", true)
	for range 2 {
		got = nil
		for level, w := range each {
			got = append(got, one{level, w})
		}
		w := []one{{1, 0x510}, {1, 0x520}, {1, 0x510}, {2, 0x20}, {2, 0x20}, {2, 0x20}, {2, 0x24}, {3, 8}, {3, 2}, {3, 2}, {3, 2},
			{4, 0xffff}, {4, 0x203}, {4, 0xffff}, {4, 0xffff}, {4, 0xffff}}
		if !slices.Equal(got, w) {
			t.Errorf("Each: %x, want %x", got, w)
		}
	}
	for n := range got {
		var some []one
		for level, w := range each {
			some = append(some, one{level, w})
			if len(some) == n+1 {
				break
			}
		}
		if !slices.Equal(some, got[:n+1]) {
			t.Errorf("Each, left behind %d: %x, want %x", n+1, some, got[:n+1])
		}
	}
	// Levels without weights are passed over.
	for _, c := range []struct {
		s           string
		shifted     bool
		level, many int
	}{{"\u0301", false, 2, 2}, {"-", true, 4, 1}, {"", true, 0, 0}, {"\x00", true, 0, 0}, {"\xff", false, 0, 0}} {
		first, many := 0, 0
		for level := range key.Each(x, c.s, c.shifted) {
			if many++; first == 0 {
				first = level
			}
		}
		want(t, "the first level of "+c.s, first, c.level)
		want(t, "weights of "+c.s, many, c.many)
	}
}

// A text whose key would be too long has no error itself: Each tells its weights, Levels too.
func TestEachOfLong(t *testing.T) {
	x := small(t)
	s := strings.Repeat("\u00e6", api.MaxCodes)
	_, e := key.Key(x, s, false)
	want(t, "Key's error", e, api.ErrLong)
	levels, _ := levelsOf(t, x, s, false)
	want(t, "what Each tells", sameLevels(told(t, x, s, false), levels), true)
	want(t, "weights", len(levels[1]), 3*api.MaxCodes)
}

// P14.6 in cases that one can see: UTS #10's order, with and without the option.

func TestOrder(t *testing.T) {
	x := small(t)
	for shifted, l := range map[bool][]string{
		false: {"", "\x00", "\u0301", "\u0323\u0301", "-", "-a", "-\u00e1", "-b", "a", "a\x00", "A", "\u00e1", "a\u0323", "a-b", "ab", "aB", "Ab", "\u00e1b", "b", "\u03b1", "\u4e00"},
		true:  {"", "\x00", "-", "-\u0301", "\u0301", "-a", "-a\u200d", "a", "a-", "A", "-\u00e1", "\u00e1", "-a-b", "-ab", "a-b", "ab", "aB", "Ab", "a\u0301b", "b", "\u4e00"},
	} {
		for i, a := range l {
			for j, b := range l {
				got := bytes.Compare(keyOf(t, x, a, shifted), keyOf(t, x, b, shifted))
				if sign := cmp.Compare(i, j); got != sign {
					t.Errorf("%q and %q, shifted %t: %d, want %d", a, b, shifted, got, sign)
				}
			}
		}
	}
}

// P2, P4 and P6 of the whole

func TestNothingGivenIsChanged(t *testing.T) {
	levels, codes := [][]int{[]int{1, 2, 99}[:2], {3}, {4}, {99}}[:3], []rune("ab\U0010ffffx")[:3]
	b := bytesOf(t, levels, codes)
	want(t, "levels", sameLevels(levels[:4], [][]int{{1, 2}, {3}, {4}, {99}}), true)
	want(t, "what is behind a level", levels[0][:3][2], 99)
	want(t, "code points", string(codes[:4]), "ab\U0010ffffx")
	clear(levels[0])
	clear(codes)
	wantRead(t, b, false, [][]int{{1, 2}, {3}, {4}}, []rune("ab\U0010ffff"))

	given := append(slices.Clone(b), 1, 2, 3)
	got, l, e := key.Read(given[:len(b)], false)
	want(t, "Read's error", e, api.OK)
	want(t, "the bytes", string(given), string(b)+"\x01\x02\x03")
	clear(given)
	want(t, "what was read", sameLevels(got, [][]int{{1, 2}, {3}, {4}}) && string(l) == "ab\U0010ffff", true)
}

// spoil writes over all of an answer, and looks that there is no room behind any end.
func spoil(t *testing.T, levels [][]int, codes []rune, e api.Errno) {
	t.Helper()
	want(t, "the error", e, api.OK)
	want(t, "room behind the levels", cap(levels), len(levels))
	want(t, "room behind the code points", cap(codes), len(codes))
	for i, l := range levels {
		want(t, "room behind a level", cap(l), len(l))
		for j := range l {
			l[j] = -7
		}
		levels[i] = nil
	}
	for i := range codes {
		codes[i] = -7
	}
}

func TestAnswersShareNothing(t *testing.T) {
	x := small(t)
	for n := range 40 {
		s := strings.Repeat("a-\u0301\u4e00\u00e6", n) + strings.Repeat("b", n%7)
		for _, shifted := range both {
			was, first := levelsOf(t, small(t), s, shifted)
			b := keyOf(t, x, s, shifted)
			for range 2 {
				levels, codes, e := key.Levels(x, s, shifted)
				want(t, "Levels", sameLevels(levels, was) && slices.Equal(codes, first), true)
				spoil(t, levels, codes, e)
				levels, codes, e = key.Read(b, shifted)
				want(t, "Read", sameLevels(levels, was) && slices.Equal(codes, first), true)
				spoil(t, levels, codes, e)
				one := keyOf(t, x, s, shifted)
				want(t, "Key", string(one), string(b))
				want(t, "room behind a key", cap(one), len(one))
				clear(one)
				one = bytesOf(t, was, first)
				want(t, "Bytes", string(one), string(b))
				want(t, "room behind bytes", cap(one), len(one))
				clear(one)
			}
		}
	}
	want(t, "what the table has", valid.Same(x.Source(), valid.Small()), true)
}

// Only a call that succeeds asks for the trie: Made is what a later call could tell.
func TestRefusedCallsChangeNothing(t *testing.T) {
	x := small(t)
	long := strings.Repeat("\u00e6", api.MaxCodes)
	for _, shifted := range both {
		for _, s := range []string{"\xff", strings.Repeat("a", api.MaxCodes+1), strings.Repeat("\u00e1", 3000), long, "a" + long[2:]} {
			if b, e := key.Key(x, s, shifted); b != nil || e == api.OK {
				t.Errorf("Key of %q and so on: %d bytes, error %d", s[:2], len(b), e)
			}
		}
		key.Levels(x, "\xff", shifted)
		key.Levels(x, long+"a", shifted)
	}
	want(t, "Made", x.Made(), 0)
	keyOf(t, x, "a", false)
	want(t, "Made", x.Made(), 1)
	y := small(t)
	keyOf(t, y, strings.Repeat("a", api.MaxCodes), true)
	want(t, "Made", y.Made(), 1)
	z := small(t)
	levelsOf(t, z, long, true)
	want(t, "Made", z.Made(), 1)
}

func TestManyAskAtOnce(t *testing.T) {
	x, s := small(t), "a-\u0301\u4e00\u00e6"
	long := strings.Repeat("\u00e6", api.MaxCodes)
	for _, shifted := range both {
		levels, codes := levelsOf(t, small(t), s, shifted)
		b := keyOf(t, small(t), s, shifted)
		var all sync.WaitGroup
		for range 8 {
			all.Go(func() {
				for range 10 {
					want(t, "Key", string(keyOf(t, x, s, shifted)), string(b))
					want(t, "Each", sameLevels(told(t, x, s, shifted), levels), true)
					wantRead(t, b, shifted, levels, codes)
				}
				_, e := key.Key(x, long, shifted)
				want(t, "Key's error", e, api.ErrLong)
			})
		}
		all.Wait()
	}
	want(t, "Made", x.Made(), 1)
}

// A key is told by the elements alone, however many an entry has.
func TestMostElements(t *testing.T) {
	most := slices.Repeat([]api.Element{elem(0xfaff, 0x1ff, 0x3f)}, api.MaxElements)
	x := load(t, norms.Small(), source(entry("a", most...)))
	for _, c := range []struct {
		n       int
		shifted bool
		err     api.Errno
	}{{661, false, api.OK}, {662, false, api.ErrLong}, {500, true, api.OK}, {501, true, api.ErrLong}} {
		s := strings.Repeat("a", c.n)
		y := load(t, norms.Small(), x.Source())
		b, e := key.Key(y, s, c.shifted)
		want(t, "Key's error", e, c.err)
		if e != api.OK {
			want(t, "Made", y.Made(), 0)
			continue
		}
		levels, codes := levelsOf(t, y, s, c.shifted)
		want(t, "weights of a level", len(levels[0]), 16*c.n)
		wantRead(t, b, c.shifted, levels, codes)
	}
	all, _ := elems.String(x, "a")
	want(t, "elements", len(all), api.MaxElements)
}
