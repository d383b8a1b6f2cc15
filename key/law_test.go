package key_test

import (
	"bytes"
	"encoding/binary"
	"math/rand"
	"slices"
	"testing"

	"lectern/api"
	"lectern/elems"
	"lectern/key"
	"lectern/norm"
	"lectern/norms"
	"lectern/pack"
	"lectern/table"
	"lectern/utf"
	"lectern/weight"
)

// The model: the chapter's words, element by element, with a look back at what stands ahead.

// seen is what happened while weights were told, so that one may tell whether texts show much.
type seen struct {
	vars, behind, across, before, none, rules int
}

// forNothing tells whether the element of that number counts for nothing, shifted.
func forNothing(l []api.Element, at int, n *seen) bool {
	if l[at].Var {
		n.vars++
		return true
	}
	if weight.Level(l[at]) < 2 {
		return false
	}
	for i := at - 1; i >= 0; i-- {
		switch {
		case weight.Level(l[i]) == 0:
			n.across++
		case l[i].Var:
			n.behind++
			return true
		case weight.Level(l[i]) == 1:
			return false
		}
	}
	n.before++
	return false
}

// modelLevels are the levels of elements.
func modelLevels(l []api.Element, shifted bool, n *seen) [][]int {
	out := make([][]int, 3)
	if shifted {
		out = make([][]int, 4)
	}
	add := func(level, w int) {
		if w != 0 {
			out[level] = append(out[level], w)
		}
	}
	for i, x := range l {
		nothing := shifted && forNothing(l, i, n)
		if !nothing {
			add(0, x.P)
			add(1, x.S)
			add(2, x.T)
		}
		switch {
		case !shifted:
		case x.Var:
			add(3, x.P)
		case weight.Level(x) == 0:
			n.none++
		case !nothing:
			add(3, 0xffff)
		}
		if x.P >= 0xfb00 {
			n.rules++
		}
	}
	return out
}

// modelBytes are those of levels and code points that may be.
func modelBytes(levels [][]int, codes []rune) []byte {
	var out []byte
	for _, l := range levels {
		for _, w := range append(slices.Clone(l), 0) {
			out = binary.BigEndian.AppendUint16(out, uint16(w))
		}
	}
	for _, r := range codes {
		out = append(out, binary.BigEndian.AppendUint32(nil, uint32(r)+1)[1:]...)
	}
	return append(out, 0, 0, 0)
}

// modelRead is Read of any bytes, by the places of what are ends.
func modelRead(b []byte, levels int) ([][]int, []rune, bool) {
	var out [][]int
	for range levels {
		end := 0
		for end+2 <= len(b) && (b[end] != 0 || b[end+1] != 0) {
			end += 2
		}
		if end+2 > len(b) {
			return nil, nil, false
		}
		var l []int
		for i := 0; i < end; i += 2 {
			l = append(l, int(binary.BigEndian.Uint16(b[i:])))
		}
		out, b = append(out, l), b[end+2:]
	}
	if len(b) == 0 || len(b)%3 != 0 {
		return nil, nil, false
	}
	var codes []rune
	for i := 0; i < len(b); i += 3 {
		r := rune(binary.BigEndian.Uint32([]byte{0, b[i], b[i+1], b[i+2]})) - 1
		switch last := i+3 == len(b); {
		case last != (r == -1):
			return nil, nil, false
		case !last && (r > 0x10ffff || r >= 0xd800 && r <= 0xdfff):
			return nil, nil, false
		case !last:
			codes = append(codes, r)
		}
	}
	return out, codes, true
}

// compareLevels is how levels and code points compare, level by level, and number by number.
func compareLevels(a, b [][]int, c, d []rune) int {
	for i := range a {
		if n := slices.Compare(a[i], b[i]); n != 0 {
			return n
		}
	}
	return slices.Compare(c, d)
}

// hold holds all that is told of s against the model, and tells its key.
func hold(t testing.TB, x *pack.Table, s string, shifted bool, n *seen) []byte {
	t.Helper()
	l, e := elems.String(x, s)
	if e != api.OK {
		wantRefused(t, "no text", x, s, e)
		return nil
	}
	given, _, _ := utf.Decode(s)
	codes, _ := norm.NFD(x.Norms(), given)
	levels := modelLevels(l, shifted, n)
	wantLevels(t, x, s, shifted, string(codes), levels...)
	b := keyOf(t, x, s, shifted)
	if !bytes.Equal(b, modelBytes(levels, codes)) {
		t.Errorf("Key of %q: %x, want %x", s, b, modelBytes(levels, codes))
	}
	wantRead(t, b, shifted, levels, codes)
	if t.Failed() {
		t.Fatalf("that was %q, shifted %t, under\n%s", s, shifted, showTable(x))
	}
	return b
}

func showTable(x *pack.Table) string {
	s, _ := table.Write(x.Source())
	return s
}

// Tables and texts

func pick[T any](r *rand.Rand, l []T) T { return l[r.Intn(len(l))] }

var (
	letters  = []rune("abc-=")
	marks    = []rune{0x301, 0x302, 0x303, 0x304}
	composed = []rune{0xc0, 0xc1, 0xc2, 0xc3}
	others   = []rune{0, 'x', 0x4e00, 0xac01, 0xffff, 0x10000, 0x10ffff}
)

// someData are data with few classes; some marks may have none.
func someData(t testing.TB, r *rand.Rand) []byte {
	t.Helper()
	var classes []api.Class
	for _, m := range marks {
		if class := pick(r, []int{0, 1, 1, 2, 254}); class > 0 {
			classes = append(classes, api.Class{From: m, To: m, Class: class})
		}
	}
	for {
		var d []api.Decomp
		for _, c := range composed {
			if r.Intn(3) > 0 {
				one := api.Decomp{Code: c, A: pick(r, slices.Concat(letters, marks, composed[:2]))}
				if r.Intn(4) > 0 {
					one.B = pick(r, marks)
				}
				d = append(d, one)
			}
		}
		if b, e := norms.Build(classes, d); e == api.OK {
			return b
		}
	}
}

// someElements are what an entry may have: with a Var one none of Level 1 that isn't, with others of all levels.
func someElements(r *rand.Rand) []api.Element {
	first := []func() api.Element{
		func() api.Element { return varied(1+r.Intn(3), 1+r.Intn(3), 1+r.Intn(3)) },
		func() api.Element { return elem(0x100+r.Intn(3), 1+r.Intn(3), 1+r.Intn(3)) },
	}[r.Intn(2)]
	var out []api.Element
	for range r.Intn(4) {
		switch r.Intn(6) {
		case 0, 1:
			out = append(out, first())
		case 2, 3:
			out = append(out, elem(0, 0x100+r.Intn(3), 1+r.Intn(3)))
		case 4:
			out = append(out, elem(0, 0, 0x30+r.Intn(3)))
		default:
			out = append(out, api.Element{})
		}
	}
	return out
}

// someTable is well formed: entries of a code point, and some with a mark behind.
func someTable(t testing.TB, r *rand.Rand) *pack.Table {
	t.Helper()
	data := someData(t, r)
	n, _ := norms.Load(data)
	s := api.Source{Version: "1", Ranges: pick(r, [][]api.Implicit{nil, weight.Unified()})}
	for _, c := range slices.Concat(letters, marks) {
		if r.Intn(6) > 0 {
			s.Entries = append(s.Entries, api.Entry{Codes: []rune{c}, Elements: someElements(r)})
		}
		if m := pick(r, marks); r.Intn(3) == 0 && norm.Is(n, []rune{c, m}) {
			s.Entries = append(s.Entries, api.Entry{Codes: []rune{c, m}, Elements: someElements(r)})
		}
	}
	return load(t, data, s)
}

func someText(r *rand.Rand) string {
	var l []rune
	for range r.Intn(8) {
		switch n := r.Intn(100); {
		case n < 45:
			l = append(l, pick(r, letters))
		case n < 80:
			l = append(l, pick(r, marks))
		case n < 92:
			l = append(l, pick(r, composed))
		default:
			l = append(l, pick(r, others))
		}
	}
	if r.Intn(200) == 0 {
		return string(l) + "\xed\xa0\x80"
	}
	return string(l)
}

// P14.1 to P14.4, P14.8

func TestAgainstTheModel(t *testing.T) {
	r := rand.New(rand.NewSource(1))
	var n seen
	for range 1000 {
		x := someTable(t, r)
		for range 20 {
			s := someText(r)
			hold(t, x, s, false, &n)
			hold(t, x, s, true, &n)
		}
	}
	for what, times := range map[string]int{"Var": n.vars, "behind a Var one": n.behind, "of Level 0 between": n.across, "marks ahead": n.before, "of Level 0": n.none, "by rule": n.rules} {
		if times < 1000 {
			t.Errorf("%s: %d times, which shows little: %+v", what, times, n)
		}
	}
}

// All texts of up to six of what has elements of all kinds.
func TestAllShortTexts(t *testing.T) {
	x := kinds(t)
	var n seen
	var all func(s string, long int)
	all = func(s string, long int) {
		hold(t, x, s, true, &n)
		if long > 0 {
			for _, c := range "-a230V" {
				all(s+string(c), long-1)
			}
		}
	}
	all("", 6)
}

// P14.5 to P14.7

// keyed is a text with all that is told of it.
type keyed struct {
	s, whole string // whole: its NFD
	b        []byte
	levels   [][]int
	codes    []rune
}

func keyedOf(t *testing.T, x *pack.Table, s string, shifted bool) keyed {
	t.Helper()
	whole, e := norm.Text(x.Norms(), s)
	want(t, "norm.Text's error", e, api.OK)
	levels, codes := levelsOf(t, x, s, shifted)
	return keyed{s, whole, keyOf(t, x, s, shifted), levels, codes}
}

func TestPairs(t *testing.T) {
	r := rand.New(rand.NewSource(2))
	same, equal, close := 0, 0, 0
	for n := range 600 {
		x, shifted := someTable(t, r), n%2 == 0
		var l []keyed
		for range 20 {
			if s := someText(r); isText(s) {
				l = append(l, keyedOf(t, x, s, shifted), keyedOf(t, x, rewritten(r, x.Norms(), s), shifted))
			}
		}
		for _, a := range l {
			for _, b := range l {
				is := a.whole == b.whole
				want(t, "how keys compare", bytes.Compare(a.b, b.b), compareLevels(a.levels, b.levels, a.codes, b.codes))
				want(t, "whether keys are equal", bytes.Equal(a.b, b.b), is)
				want(t, "whether one begins the other", bytes.HasPrefix(a.b, b.b), is)
				if is && a.s != b.s {
					same++
				}
				if sameLevels(a.levels, b.levels) && !is {
					equal++
				}
				if len(a.levels[0]) > 0 && slices.Equal(a.levels[0], b.levels[0]) && !sameLevels(a.levels, b.levels) {
					close++
				}
				if t.Failed() {
					t.Fatalf("that was %q and %q, shifted %t, under\n%s", a.s, b.s, shifted, showTable(x))
				}
			}
		}
	}
	if same < 2500 || equal < 5000 || close < 5000 {
		t.Errorf("%d pairs that are equivalent, %d with the same levels, %d with the same first one, which shows little", same, equal, close)
	}
}

func isText(s string) bool {
	_, e := utf.Check(s)
	return e == api.OK
}

// rewritten is a text that is equivalent to s: some of it is made what it comes to, or the other way; marks change places.
func rewritten(r *rand.Rand, n *norms.Norms, s string) string {
	out := []rune(s)
	for range r.Intn(12) {
		if len(out) == 0 {
			break
		}
		at := r.Intn(len(out))
		c := pick(r, composed)
		switch d := n.Decomp(c); r.Intn(3) {
		case 0:
			out = slices.Replace(out, at, at+1, n.Decomp(out[at])...)
		case 1:
			if len(out) >= at+len(d) && slices.Equal(out[at:at+len(d)], d) {
				out = slices.Replace(out, at, at+len(d), c)
			}
		case 2:
			if at+1 < len(out) && changePlaces(n, out[at], out[at+1]) {
				out[at], out[at+1] = out[at+1], out[at]
			}
		}
	}
	return string(out)
}

// changePlaces tells whether both are marks, of several classes, that don't come to others.
func changePlaces(n *norms.Norms, a, b rune) bool {
	return !n.Starter(a) && !n.Starter(b) && n.Class(a) != n.Class(b) && len(n.Decomp(a)) == 1 && len(n.Decomp(b)) == 1
}

// P14.6, of any levels: not only those that texts have.

func TestAnyLevels(t *testing.T) {
	r := rand.New(rand.NewSource(3))
	weights, codes := []int{1, 2, 0xff, 0x100, 0x101, 0xff00, 0xffff}, []rune{0, 1, 0xfe, 0xff, 0x100, 0xffff, 0x10000, 0x10ffff}
	some := func(n int) ([][]int, []rune) {
		levels := make([][]int, n)
		for i := range levels {
			for range r.Intn(3) {
				levels[i] = append(levels[i], pick(r, weights))
			}
		}
		var l []rune
		for range r.Intn(3) {
			l = append(l, pick(r, codes))
		}
		return levels, l
	}
	for range 100000 {
		n := 3 + r.Intn(2)
		a, c := some(n)
		b, d := some(n)
		if r.Intn(2) == 0 {
			k := r.Intn(n)
			copy(b[:k], a[:k])
		}
		if r.Intn(4) == 0 {
			b = a
		}
		one, two := bytesOf(t, a, c), bytesOf(t, b, d)
		want(t, "how bytes compare", bytes.Compare(one, two), compareLevels(a, b, c, d))
		want(t, "whether one begins the other", bytes.HasPrefix(one, two), compareLevels(a, b, c, d) == 0)
		wantRead(t, one, n == 4, a, c)
		if t.Failed() {
			t.Fatalf("that was %x %x, %x %x", a, c, b, d)
		}
	}
}

// P14.3, P14.8: any bytes

// holdBytes holds what is read of b against the model, and tells whether it is a key.
func holdBytes(t testing.TB, b []byte, shifted bool) bool {
	t.Helper()
	n := 3
	if shifted {
		n = 4
	}
	if len(b) > api.MaxSort {
		wantNoKey(t, "too many", b, shifted, api.ErrLong)
		return false
	}
	levels, codes, is := modelRead(b, n)
	if !is {
		wantNoKey(t, "what is none", b, shifted, api.ErrSort)
		return false
	}
	wantRead(t, b, shifted, levels, codes)
	want(t, "Bytes of Read", string(bytesOf(t, levels, codes)), string(b))
	return true
}

func TestAnyBytes(t *testing.T) {
	r := rand.New(rand.NewSource(4))
	x := small(t)
	is, none := 0, 0
	count := func(b []byte, shifted bool) {
		if holdBytes(t, b, shifted) {
			is++
		} else {
			none++
		}
	}
	for range 30000 {
		var b []byte
		for range r.Intn(24) {
			b = append(b, pick(r, []byte{0, 0, 0, 0, 1, 2, 0x10, 0x11, 0xd8, 0xe0, 0xff}))
		}
		b = append(b, make([]byte, r.Intn(6))...)
		count(b, r.Intn(2) == 0)
	}
	for range 10000 {
		shifted := r.Intn(2) == 0
		s, e := key.Key(x, someText(r), shifted)
		if e != api.OK {
			continue
		}
		for range r.Intn(3) {
			s[r.Intn(len(s))] = pick(r, []byte{0, 1, 0x10, 0x11, 0xd8, 0xdf, 0xe0, 0xff})
		}
		count(s, shifted != (r.Intn(5) == 0))
	}
	if is < 4000 || none < 4000 {
		t.Errorf("%d are keys, %d are none, which shows little", is, none)
	}
}

func FuzzRead(f *testing.F) {
	for _, s := range []string{"", "\x05\x10\x00\x00\x00\x20\x00\x00\x00\x02\x00\x00\x00\x00\x62\x00\x00\x00", "\x00\x00\x00\x00\x00\x00\x00\x00\x00", "\x00\x00\x00\x00\x00\x00\x00\xff\x00\x00\x00\xd8\x01\x00\x00\x00"} {
		f.Add([]byte(s))
	}
	f.Fuzz(func(t *testing.T, b []byte) {
		holdBytes(t, b, false)
		holdBytes(t, b, true)
	})
}

func FuzzKey(f *testing.F) {
	for seed := range int64(10) {
		f.Add(seed, "a-\u0301\u00c0")
		f.Add(seed, "=\u0302\x00\u00c1b\xff")
	}
	f.Fuzz(func(t *testing.T, seed int64, s string) {
		x := someTable(t, rand.New(rand.NewSource(seed)))
		s = s[:min(len(s), 500)]
		var n seen
		one, two := hold(t, x, s, false, &n), hold(t, x, s, true, &n)
		if len(one) > 0 && !isText(s) || bytes.Equal(one, two) && len(one) > 0 {
			t.Errorf("keys %x, %x", one, two)
		}
	})
}
