package norm_test

import (
	"math/rand"
	"slices"
	"strings"
	"testing"
	"unicode/utf8"

	"lectern/api"
	"lectern/norm"
	"lectern/norms"
)

// The model: classes and steps as they were built, decomposed one step within another, and marks swapped with their neighbours till none
// is left to swap, as UAX #15 words it.

type model struct {
	c []api.Class
	d []api.Decomp
}

func (m model) class(r rune) int {
	for _, x := range m.c {
		if x.From <= r && r <= x.To {
			return x.Class
		}
	}
	return 0
}

func (m model) whole(r rune) []rune {
	if s := r - 0xac00; s >= 0 && s < 11172 {
		l := []rune{0x1100 + s/588, 0x1161 + s%588/28, 0x11a7 + s%28}
		if s%28 == 0 {
			return l[:2]
		}
		return l
	}
	for _, x := range m.d {
		if x.Code == r && x.B == 0 {
			return m.whole(x.A)
		}
		if x.Code == r {
			return append(m.whole(x.A), m.whole(x.B)...)
		}
	}
	return []rune{r}
}

func (m model) order(l []rune) []rune {
	out := slices.Clone(l)
	for swapped := true; swapped; {
		swapped = false
		for i := 1; i < len(out); i++ {
			if b := m.class(out[i]); b > 0 && m.class(out[i-1]) > b {
				out[i-1], out[i], swapped = out[i], out[i-1], true
			}
		}
	}
	return out
}

func (m model) nfd(l []rune) []rune {
	var out []rune
	for _, r := range l {
		out = append(out, m.whole(r)...)
	}
	return m.order(out)
}

// parts are the pieces of a list, each from one of class 0 on.
func (m model) parts(l []rune) [][]rune {
	var out [][]rune
	for i, r := range l {
		if i == 0 || m.class(r) == 0 {
			out = append(out, nil)
		}
		out[len(out)-1] = append(out[len(out)-1], r)
	}
	return out
}

// stream tells what each Push of l tells, and then End, and holds how many are held against the words of P6.5.
func (m model) stream(l []rune) (told [][]rune, held []int) {
	var now []rune
	for _, r := range l {
		var out []rune
		for _, x := range m.whole(r) {
			if m.class(x) == 0 {
				out, now = append(out, m.order(now)...), nil
			}
			now = append(now, x)
		}
		told, held = append(told, out), append(held, len(now))
	}
	return append(told, m.order(now)), append(held, 0)
}

// data are a model and what norms makes of it.
type data struct {
	model
	n *norms.Norms
}

func smallData(t testing.TB) data {
	n := small(t)
	return data{model{n.Classes(), slices.Collect(n.Decomps())}, n}
}

var (
	letters = []rune{'a', 'b', 'c', 0, 0x10ffff, 0xe000, 0x1f600}
	hangul  = []rune{0xac00, 0xac01, 0xd7a3, 0x1100, 0x1161, 0x11a8}
	marks   = []rune{0x300, 0x301, 0x302, 0x303, 0x304, 0x305, 0x306, 0x307}
	codes   = []rune{0xc0, 0xc1, 0xc2, 0xc3, 0xc4, 0xc5, 0xc6, 0xc7, 0x306, 0x307, 0x20000, 0x20001}
)

func pick(r *rand.Rand, l ...[]rune) rune {
	x := l[r.Intn(len(l))]
	return x[r.Intn(len(x))]
}

// someData are any that may be: a few classes, with the jamo among the marks now and then, and decompositions of all shapes.
func someData(t testing.TB, r *rand.Rand) data {
	t.Helper()
	var m model
	for _, x := range slices.Concat(marks, hangul[3:]) {
		if x < 0x1000 && r.Intn(8) > 0 || r.Intn(12) == 0 {
			m.c = append(m.c, one(x, []int{1, 7, 9, 220, 230, 254}[r.Intn(6)]))
		}
	}
	if r.Intn(4) == 0 {
		m.c = append(m.c, api.Class{From: 0xd7ff, To: 0xe000, Class: 1 + r.Intn(254)})
	}
	for range r.Intn(30) {
		x := api.Decomp{Code: pick(r, codes), A: pick(r, letters, hangul, marks, codes, codes), B: pick(r, marks, marks, letters, hangul, []rune{0})}
		with := model{m.c, append(slices.Clone(m.d), x)}
		slices.SortFunc(with.d, func(a, b api.Decomp) int { return int(a.Code) - int(b.Code) })
		if _, e := norms.Build(with.c, with.d); e == api.OK {
			m = with
		}
	}
	return data{m, made(t, m.c, m.d)}
}

func someList(r *rand.Rand, most int) []rune {
	l := make([]rune, r.Intn(most+1))
	for i := range l {
		l[i] = pick(r, letters, hangul, marks, marks, codes, codes)
	}
	return l
}

// nfd is NFD of what it takes.
func (d data) nfd(t testing.TB, l []rune) []rune {
	t.Helper()
	out, e := norm.NFD(d.n, l)
	if e != api.OK {
		t.Fatalf("NFD of %x: error %d", l, e)
	}
	return out
}

// holdAgainst holds all that is told of a list of scalars against the model.
func (d data) holdAgainst(t testing.TB, l []rune) {
	t.Helper()
	whole := d.model.nfd(l)
	if got := d.nfd(t, l); !slices.Equal(got, whole) {
		t.Fatalf("%x: NFD %x, want %x", l, got, whole)
	}
	if got := norm.Order(d.n, l); !slices.Equal(got, d.model.order(l)) {
		t.Fatalf("%x: Order %x, want %x", l, got, d.model.order(l))
	}
	if got := norm.Is(d.n, l); got != slices.Equal(l, whole) {
		t.Fatalf("%x: Is %v, its NFD is %x", l, got, whole)
	}
	wantPieces(t, "Parts of "+hex(l), slices.Collect(norm.Parts(d.n, l)), d.model.parts(whole))
	told, held := d.model.stream(l)
	s := norm.New(d.n)
	for i := range told {
		var got []rune
		if i < len(l) {
			got, _ = s.Push(l[i])
		} else {
			got = s.End()
		}
		if !slices.Equal(got, told[i]) || s.Held() != held[i] {
			t.Fatalf("%x: the stream tells %x at %d, %d held; want %x, %d", l, got, i, s.Held(), told[i], held[i])
		}
	}
}

func TestAgainstTheModel(t *testing.T) {
	r := rand.New(rand.NewSource(1))
	changed, moved := 0, 0
	for range 1000 {
		d := someData(t, r)
		for range 20 {
			l := someList(r, 12)
			d.holdAgainst(t, l)
			if !norm.Is(d.n, l) {
				changed++
			}
			if !slices.Equal(norm.Order(d.n, l), l) {
				moved++
			}
		}
	}
	if changed < 5000 || moved < 2000 {
		t.Errorf("of 20000 lists %d are changed, %d put in order: that shows little", changed, moved)
	}
}

// All short lists of some that meet in every way.
func TestAllShortLists(t *testing.T) {
	d := smallData(t)
	few := []rune{'a', 0x302, 0x301, 0x323, 0x327, 0x344, 0x1ead, 0xac01}
	var all func(l []rune)
	all = func(l []rune) {
		d.holdAgainst(t, l)
		if len(l) == 4 {
			return
		}
		for _, r := range few {
			all(append(slices.Clip(l), r))
		}
	}
	all(nil)
}

// Each code point alone, and with a mark on either side.
func TestAllCodePoints(t *testing.T) {
	d := smallData(t)
	for r := range rune(0x110000) {
		l := []rune{r, 0x323}
		got, e := norm.NFD(d.n, l)
		if !utf8.ValidRune(r) {
			if e != api.ErrRune || got != nil {
				t.Fatalf("%x: %x, error %d", r, got, e)
			}
			continue
		}
		if whole := d.model.nfd(l); e != api.OK || !slices.Equal(got, whole) {
			t.Fatalf("%x: %x, error %d; want %x", l, got, e, whole)
		}
	}
}

func TestTextsAgainstTheModel(t *testing.T) {
	r := rand.New(rand.NewSource(2))
	for range 300 {
		d := someData(t, r)
		for range 20 {
			l, other := someList(r, 8), someList(r, 8)
			if r.Intn(2) == 0 { // one that is often equivalent
				other = d.model.nfd(l)
				r.Shuffle(len(other), func(i, j int) { other[i], other[j] = other[j], other[i] })
			}
			d.holdTexts(t, string(l), string(other))
		}
	}
}

// holdTexts holds what is told of any two texts, or of what is none, against the model.
func (d data) holdTexts(t testing.TB, a, b string) {
	t.Helper()
	whole, err := d.text(a)
	if got, e := norm.Text(d.n, a); got != whole || e != err {
		t.Fatalf("Text of %q: %q, error %d; want %q, %d", a, got, e, whole, err)
	}
	other, otherErr := d.text(b)
	if err == api.OK {
		err = otherErr
	}
	compared := 0
	if err == api.OK {
		compared = slices.Compare([]rune(whole), []rune(other))
	}
	if got, e := norm.Compare(d.n, a, b); got != compared || e != err {
		t.Fatalf("Compare of %q and %q: %d, error %d; want %d, %d", a, b, got, e, compared, err)
	}
	same := err == api.OK && whole == other
	if got, e := norm.Same(d.n, a, b); got != same || e != err {
		t.Fatalf("Same of %q and %q: %v, error %d; want %v, %d", a, b, got, e, same, err)
	}
}

// text is Text by other means.
func (d data) text(s string) (string, api.Errno) {
	switch {
	case !utf8.ValidString(s):
		return "", api.ErrUTF
	case len(s) > 1000:
		return "", api.ErrLong
	}
	return string(d.model.nfd([]rune(s))), api.OK
}

func FuzzText(f *testing.F) {
	for _, s := range []string{"", "a", "\u1ead", "a\u0302\u0323", "\uac01\u0301", "\u0344", "\xff", "a\xe2\x82", "\xed\xa0\x80", strings.Repeat("a", 1001)} {
		f.Add(s, "a\u0323\u0302")
	}
	d := smallData(f)
	f.Fuzz(func(t *testing.T, a, b string) {
		d.holdTexts(t, a, b)
		if l := []rune(a); len(l) <= api.MaxRunes && len(a) <= 1000 {
			d.holdAgainst(t, l)
		}
	})
}

// P6.6

func TestOnceIsEnough(t *testing.T) {
	r := rand.New(rand.NewSource(3))
	for range 500 {
		d := someData(t, r)
		for range 20 {
			l := someList(r, 20)
			whole := d.nfd(t, l)
			if again := d.nfd(t, whole); !slices.Equal(again, whole) || !norm.Is(d.n, whole) {
				t.Fatalf("NFD of %x: %x, and of that %x, Is %v", l, whole, again, norm.Is(d.n, whole))
			}
		}
	}
}

// P6.7

func TestPieceByPiece(t *testing.T) {
	r := rand.New(rand.NewSource(4))
	joined := 0
	for range 500 {
		d := someData(t, r)
		for range 20 {
			l, other := someList(r, 12), someList(r, 12)
			whole, second := d.nfd(t, l), d.nfd(t, other)
			var pieces []rune
			for p := range norm.Parts(d.n, l) {
				pieces = append(pieces, d.nfd(t, p)...)
			}
			if !slices.Equal(pieces, whole) {
				t.Fatalf("NFD of %x: %x; of its Parts: %x", l, whole, pieces)
			}
			wantStream(t, d.n, l, whole)
			if len(second) == 0 || d.n.Class(second[0]) == 0 {
				joined++
				if both := d.nfd(t, slices.Concat(l, other)); !slices.Equal(both, slices.Concat(whole, second)) {
					t.Fatalf("NFD of %x behind %x: %x", other, l, both)
				}
			}
		}
	}
	if joined < 3000 {
		t.Errorf("%d of 10000 were joined: that shows little", joined)
	}
}

// P6.8

// variants are texts that are often equivalent: of one list some code points are taken apart, and marks are swapped.
func variants(d data, r *rand.Rand) [3]string {
	var out [3]string
	l := someList(r, 5)
	for i := range out {
		var v []rune
		for _, x := range l {
			if r.Intn(2) == 0 {
				v = append(v, x)
			} else {
				v = append(v, d.model.whole(x)...)
			}
		}
		for range r.Intn(4) {
			if at := r.Intn(len(v) + 1); at > 0 && at < len(v) {
				v[at-1], v[at] = v[at], v[at-1]
			}
		}
		out[i] = string(v)
	}
	return out
}

func TestEquivalent(t *testing.T) {
	r := rand.New(rand.NewSource(5))
	sames, chains := 0, 0
	for range 500 {
		d := someData(t, r)
		same := func(a, b string) bool {
			is, e := norm.Same(d.n, a, b)
			c, err := norm.Compare(d.n, a, b)
			if e != api.OK || err != api.OK || is != (c == 0) {
				t.Fatalf("%q and %q: Same %v, error %d; Compare %d, error %d", a, b, is, e, c, err)
			}
			return is
		}
		for range 20 {
			v := variants(d, r)
			a, b, c := v[0], v[1], v[2]
			text, _ := norm.Text(d.n, a)
			if !same(a, a) || !same(a, text) || !same(text, a) || same(a, b) != same(b, a) {
				t.Fatalf("%q, %q, Text %q: Same is no equivalence", a, b, text)
			}
			if same(a, b) && a != b {
				sames++
			}
			if same(a, b) && same(b, c) {
				chains++
				if !same(a, c) {
					t.Fatalf("%q, %q, %q: Same is no equivalence", a, b, c)
				}
			}
		}
	}
	if sames < 1000 || chains < 1000 {
		t.Errorf("%d of 10000 are Same, %d in a chain: that shows little", sames, chains)
	}
}

// P6.9

// ofClass are the code points of a class, in each run by itself: a 0 stands where one of class 0 does.
func (d data) ofClass(l []rune, class int) []rune {
	var out []rune
	for _, r := range l {
		switch d.n.Class(r) {
		case class:
			out = append(out, r)
		case 0:
			out = append(out, 0)
		}
	}
	return out
}

func TestOnlyMoved(t *testing.T) {
	r := rand.New(rand.NewSource(6))
	for range 500 {
		d := someData(t, r)
		for range 20 {
			l := someList(r, 20)
			for range r.Intn(3) { // of any list
				l = append(l, []rune{-1, 0xd800, 0x110000, 0x301}[r.Intn(4)], pick(r, marks))
			}
			got := norm.Order(d.n, l)
			if len(got) != len(l) {
				t.Fatalf("Order of %x: %x", l, got)
			}
			for i, x := range l {
				if starts := d.n.Class(x) == 0; starts != (d.n.Class(got[i]) == 0) || starts && got[i] != x {
					t.Fatalf("Order of %x: %x: at %d", l, got, i)
				}
				if class := d.n.Class(x); !slices.Equal(d.ofClass(l, class), d.ofClass(got, class)) {
					t.Fatalf("Order of %x: %x: those of class %d", l, got, class)
				}
				if i > 0 && d.n.Class(got[i]) > 0 && d.n.Class(got[i-1]) > d.n.Class(got[i]) {
					t.Fatalf("Order of %x: %x: not in order at %d", l, got, i)
				}
			}
		}
	}
}
