package norms_test

import (
	"bytes"
	"encoding/binary"
	"hash/crc32"
	"math/rand"
	"slices"
	"strconv"
	"strings"
	"testing"

	"lectern/api"
	"lectern/norms"
)

// frameOf is crc's Frame by other means.
func frameOf(payload []byte) []byte {
	sum := crc32.Checksum(payload, crc32.MakeTable(crc32.Castagnoli))
	out := binary.AppendUvarint(nil, uint64(len(payload)))
	out = binary.LittleEndian.AppendUint32(out, (sum>>15|sum<<17)+0xA282EAD8)
	return append(out, payload...)
}

// payloadOf is a frame of any numbers.
func payloadOf(numbers ...uint64) []byte {
	b := []byte("NRM1")
	for _, n := range numbers {
		b = binary.AppendUvarint(b, n)
	}
	return frameOf(b)
}

// numbersOf are the numbers of any lists, also of such as may not be, and bytesOf their bytes: Build by other means.
func numbersOf(c []api.Class, d []api.Decomp) []uint64 {
	out := []uint64{uint64(len(c))}
	for _, x := range c {
		out = append(out, uint64(uint32(x.From)), uint64(uint32(x.To)), uint64(x.Class))
	}
	out = append(out, uint64(len(d)))
	for _, x := range d {
		out = append(out, uint64(uint32(x.Code)), uint64(uint32(x.A)), uint64(uint32(x.B)))
	}
	return out
}

func bytesOf(c []api.Class, d []api.Decomp) []byte { return payloadOf(numbersOf(c, d)...) }

// chapters are the decompositions that the chapter lists.
func chapters(t *testing.T) []api.Decomp {
	t.Helper()
	const list = `C0 41 300 · C1 41 301 · C2 41 302 · C3 41 303 · C4 41 308 · C5 41 30A · C7 43 327 · C8 45 300 · C9 45 301 · CA 45 302 · CB 45 308 · D1 4E 303 · D6 4F 308 · DC 55 308 · E0 61 300 · E1 61 301 · E2 61 302 · E3 61 303 · E4 61 308 · E5 61 30A · E7 63 327 · E8 65 300 · E9 65 301 · EA 65 302 · EB 65 308 · F1 6E 303 · F4 6F 302 · F6 6F 308 · FC 75 308 · FF 79 308 · 101 61 304 · 1D5 DC 304 · 1D6 FC 304 · 344 308 301 · 958 915 93C · 1E0B 64 307 · 1E0D 64 323 · 1E63 73 323 · 1E69 1E63 307 · 1EA1 61 323 · 1EA5 E2 301 · 1EAD 1EA1 302 · 1EB9 65 323 · 1EC7 1EB9 302 · 2126 3A9 · 212B C5`
	var out []api.Decomp
	for _, row := range strings.Split(list, " · ") {
		var l [3]rune
		for i, s := range strings.Fields(row) {
			n, err := strconv.ParseInt(s, 16, 32)
			if err != nil {
				t.Fatal(err)
			}
			l[i] = rune(n)
		}
		out = append(out, api.Decomp{Code: l[0], A: l[1], B: l[2]})
	}
	return out
}

// The model: what data may be and what it tells, by the chapter's words one by one, without a thought of how long that takes.

type model struct {
	c []api.Class
	d []api.Decomp
}

func isCode(r rune) bool     { return r >= 0 && r <= 0x10ffff && (r < 0xd800 || r > 0xdfff) }
func isSyllable(r rune) bool { return r >= 0xac00 && r <= 0xd7a3 }

// allJamo are what the Hangul syllables come to.
var allJamo = func() map[rune]bool {
	all := map[rune]bool{}
	for s := rune(0xac00); s <= 0xd7a3; s++ {
		for _, r := range syllable(s) {
			all[r] = true
		}
	}
	return all
}()

func syllable(r rune) []rune {
	s := r - 0xac00
	l := []rune{0x1100 + s/588, 0x1161 + s%588/28, 0x11a7 + s%28}
	if s%28 == 0 {
		return l[:2]
	}
	return l
}

func (m model) class(r rune) int {
	for _, x := range m.c {
		if x.From <= r && r <= x.To {
			return x.Class
		}
	}
	return 0
}

// step is what r decomposes to by one step; none, if it doesn't.
func (m model) step(r rune) []rune {
	for _, x := range m.d {
		if x.Code == r && x.B == 0 {
			return []rune{x.A}
		}
		if x.Code == r {
			return []rune{x.A, x.B}
		}
	}
	return nil
}

// deep is how many steps r needs; many, where it comes to itself.
func (m model) deep(r rune, most int) int {
	if most == 0 {
		return 0
	}
	deepest := 0
	for _, x := range m.step(r) {
		deepest = max(deepest, 1+m.deep(x, most-1))
	}
	return deepest
}

func (m model) whole(r rune) []rune {
	if isSyllable(r) {
		return syllable(r)
	}
	step := m.step(r)
	if step == nil {
		return []rune{r}
	}
	var out []rune
	for _, x := range step {
		out = append(out, m.whole(x)...)
	}
	return out
}

func (m model) classErr() bool {
	for i, x := range m.c {
		if !isCode(x.From) || !isCode(x.To) || x.From > x.To || x.Class < 1 || x.Class > 254 || i > 0 && x.From <= m.c[i-1].To {
			return true
		}
	}
	return false
}

func (m model) decompErr() bool {
	for i, x := range m.d {
		if !isCode(x.Code) || !isCode(x.A) || x.A == 0 || !isCode(x.B) || isSyllable(x.Code) || allJamo[x.Code] {
			return true
		}
		if i > 0 && x.Code <= m.d[i-1].Code {
			return true
		}
		if x.B != 0 && (m.step(x.B) != nil || isSyllable(x.B)) {
			return true
		}
	}
	for _, x := range m.d {
		if m.deep(x.Code, 50) > 4 {
			return true
		}
	}
	for _, x := range m.d {
		if m.class(x.Code) != 0 && m.class(m.whole(x.Code)[0]) == 0 {
			return true
		}
	}
	return false
}

func (m model) err() api.Errno {
	switch {
	case m.classErr():
		return api.ErrClass
	case m.decompErr():
		return api.ErrDecomp
	}
	return api.OK
}

// edges are code points on both sides of what may not be, and numbers that are none.
var edges = []rune{
	0, 0, 1, -1, 0x10ff, 0x1100, 0x1112, 0x1113, 0x1160, 0x1161, 0x1175, 0x1176, 0x11a7, 0x11a8, 0x11c2, 0x11c3, 0xabff, 0xac00, 0xac01, 0xac1c, 0xd7a3, 0xd7a4,
	0xd7ff, 0xd800, 0xdfff, 0xe000, 0x10fffe, 0x10ffff, 0x110000,
}

// someCode is mostly one of few, so that they meet; now and then an edge.
func someCode(r *rand.Rand) rune {
	if r.Intn(40) == 0 {
		return edges[r.Intn(len(edges))]
	}
	return rune(0x20 + r.Intn(24))
}

// someModel is data that may be, or nearly so. Letters are below marks, mostly.
func someModel(r *rand.Rand) model {
	var m model
	for range r.Intn(4) {
		from := someCode(r)
		m.c = append(m.c, api.Class{From: from, To: from + rune(r.Intn(3)), Class: 1 + r.Intn(254)})
	}
	for range r.Intn(7) {
		m.d = append(m.d, api.Decomp{Code: someCode(r), A: someCode(r), B: someCode(r) * rune(r.Intn(2))})
	}
	if r.Intn(20) > 0 {
		slices.SortFunc(m.c, func(a, b api.Class) int { return int(a.From) - int(b.From) })
		slices.SortFunc(m.d, func(a, b api.Decomp) int { return int(a.Code) - int(b.Code) })
		m.d = slices.CompactFunc(m.d, func(a, b api.Decomp) bool { return a.Code == b.Code })
	}
	if len(m.c) > 0 && r.Intn(20) == 0 {
		m.c[0].Class = []int{0, -1, 255, 256, 254, 1}[r.Intn(6)]
	}
	return m
}

// goodModel is data that may be, of some size.
func goodModel(r *rand.Rand) model {
	var m model
	for at := rune(r.Intn(9)); len(m.c) < 20; at += rune(1 + r.Intn(9)) {
		to := at + rune(r.Intn(5))
		m.c = append(m.c, api.Class{From: 0x300 + at, To: 0x300 + to, Class: 1 + r.Intn(254)})
		at = to
	}
	marks := []rune{0, 0, 0x300, 0x305, 0x310, 0x320, 1, 0x10ffff}
	for level := range rune(api.MaxDeep) { // each level comes to those ahead; the levels lie in any order
		begin := (level*5 + rune(1+r.Intn(3))) % 7 * 0x1000
		for i := range rune(1 + r.Intn(10)) {
			a := []rune{'a', 0xe000, 0x1100, 0xac00, 0xac01, 0xd7a3, 0x10ffff}[r.Intn(7)]
			if len(m.d) > 0 && r.Intn(3) > 0 {
				a = m.d[r.Intn(len(m.d))].Code
			}
			m.d = append(m.d, api.Decomp{Code: 0x20000 + begin + 2*i + level*0x100, A: a, B: marks[r.Intn(len(marks))]})
		}
	}
	slices.SortFunc(m.d, func(a, b api.Decomp) int { return int(a.Code) - int(b.Code) })
	m.d = slices.DeleteFunc(m.d, func(x api.Decomp) bool { return m.deep(x.Code, 50) > 4 })
	return m
}

// holdAgainst holds all that Build and Load tell of m against the model.
func holdAgainst(t *testing.T, m model) {
	t.Helper()
	want := m.err()
	b, e := norms.Build(m.c, m.d)
	n, err := norms.Load(bytesOf(m.c, m.d))
	loadable := !slices.ContainsFunc(m.c, func(x api.Class) bool { return x.From < 0 || x.To < 0 || x.Class < 0 }) &&
		!slices.ContainsFunc(m.d, func(x api.Decomp) bool { return x.Code < 0 || x.A < 0 || x.B < 0 }) // below 0 nothing has bytes
	if e != want || loadable && err != want {
		t.Fatalf("%x: Build %d, Load %d, want %d", m, e, err, want)
	}
	if want != api.OK {
		if b != nil || n != nil {
			t.Fatalf("%x: an answer beside error %d", m, want)
		}
		return
	}
	if !bytes.Equal(b, bytesOf(m.c, m.d)) || !slices.Equal(n.Classes(), m.c) || !slices.Equal(slices.Collect(n.Decomps()), m.d) {
		t.Fatalf("%x: % x, %x, %x", m, b, n.Classes(), slices.Collect(n.Decomps()))
	}
	look := slices.Concat(edges, []rune{'a', 0x2ff, 0x300, 0x301, 0x320, 0x350, 0xe001})
	for _, x := range m.c {
		look = append(look, x.From-1, x.From, x.To, x.To+1)
	}
	for _, x := range m.d {
		look = append(look, x.Code-1, x.Code, x.Code+1, x.A, x.B)
	}
	for _, r := range look {
		if n.Class(r) != m.class(r) || n.Starter(r) != (m.class(r) == 0) || !slices.Equal(n.Decomp(r), m.whole(r)) {
			t.Fatalf("%x: %x has class %d, comes to %x; want %d, %x", m, r, n.Class(r), n.Decomp(r), m.class(r), m.whole(r))
		}
	}
}

func TestAgainstTheModel(t *testing.T) {
	r := rand.New(rand.NewSource(1))
	seen := map[api.Errno]int{}
	for range 30000 {
		m := someModel(r)
		seen[m.err()]++
		holdAgainst(t, m)
	}
	for _, e := range []api.Errno{api.OK, api.ErrClass, api.ErrDecomp} {
		if seen[e] < 2000 {
			t.Errorf("error %d came %d times of 30000: that shows little", e, seen[e])
		}
	}
}

// P5.7

func TestThereAndBack(t *testing.T) {
	r := rand.New(rand.NewSource(2))
	for range 300 {
		m := goodModel(r)
		b := build(t, m.c, m.d)
		n := load(t, b)
		wantList(t, "classes", n.Classes(), m.c)
		wantList(t, "decompositions", decomps(n), m.d)
		if again := build(t, n.Classes(), decomps(n)); !bytes.Equal(again, b) {
			t.Fatalf("%x: % x, and then % x", m, b, again)
		}
		holdAgainst(t, m)
	}
}

// wantOneForm fails if b is loaded, but isn't what Build makes of what was loaded.
func wantOneForm(t *testing.T, b []byte) bool {
	t.Helper()
	n, e := norms.Load(b)
	if e != api.OK {
		if n != nil {
			t.Fatalf("% x: an object beside error %d", b, e)
		}
		return false
	}
	if again := build(t, n.Classes(), slices.Collect(n.Decomps())); !bytes.Equal(again, b) {
		t.Fatalf("% x is loaded, but built as % x", b, again)
	}
	return true
}

// errOf is Load's error by other means: the library's varints, of which those in a longer form are none.
func errOf(payload []byte) api.Errno {
	rest, is := bytes.CutPrefix(payload, []byte("NRM1"))
	if !is {
		return api.ErrNorms
	}
	var numbers []uint64
	for len(rest) > 0 {
		n, long := binary.Uvarint(rest)
		if long <= 0 || n > 1<<31 || len(binary.AppendUvarint(nil, n)) != long {
			return api.ErrNorms
		}
		numbers, rest = append(numbers, n), rest[long:]
	}
	var m model
	for list := range 2 {
		if len(numbers) == 0 || uint64(len(numbers)-1)/3 < numbers[0] {
			return api.ErrNorms
		}
		count := numbers[0]
		numbers = numbers[1:]
		for range count {
			if list == 0 {
				m.c = append(m.c, api.Class{From: rune(numbers[0]), To: rune(numbers[1]), Class: int(numbers[2])})
			} else {
				m.d = append(m.d, api.Decomp{Code: rune(numbers[0]), A: rune(numbers[1]), B: rune(numbers[2])})
			}
			numbers = numbers[3:]
		}
	}
	if len(numbers) > 0 {
		return api.ErrNorms
	}
	if len(m.c) > 4000 || len(m.d) > 8000 {
		return api.ErrLong
	}
	return m.err()
}

func wantErrOf(t *testing.T, payload []byte) {
	t.Helper()
	if _, e := norms.Load(frameOf(payload)); e != errOf(payload) {
		t.Fatalf("% x: error %d, want %d", payload, e, errOf(payload))
	}
}

func TestAnyBytes(t *testing.T) {
	r := rand.New(rand.NewSource(3))
	loaded := 0
	for range 20000 {
		b := make([]byte, r.Intn(30))
		r.Read(b)
		wantOneForm(t, b)
		m := someModel(r)
		for i := range m.c { // numbers below 0 have no bytes of their own
			m.c[i] = api.Class{From: max(0, m.c[i].From), To: max(0, m.c[i].To), Class: max(0, m.c[i].Class)}
		}
		for i := range m.d {
			m.d[i] = api.Decomp{Code: max(0, m.d[i].Code), A: max(0, m.d[i].A), B: max(0, m.d[i].B)}
		}
		whole := bytesOf(m.c, m.d)
		payload := whole[len(whole)-payloadLong(whole):]
		wantErrOf(t, payload)
		if wantOneForm(t, whole) {
			loaded++
		}
		switch at := r.Intn(len(payload)); r.Intn(4) {
		case 0:
			payload[at] = byte(r.Intn(256))
		case 1:
			payload[at] ^= 0x80
		case 2:
			payload = payload[:at]
		case 3:
			payload = append(payload, byte(r.Intn(3)))
		}
		wantErrOf(t, payload)
		wantOneForm(t, frameOf(payload))
	}
	if loaded < 2000 {
		t.Errorf("%d of 20000 were loaded: that shows little", loaded)
	}
}

// payloadLong is how many bytes the payload of a frame has.
func payloadLong(frame []byte) int {
	n, _ := binary.Uvarint(frame)
	return int(n)
}

func FuzzLoad(f *testing.F) {
	for _, b := range [][]byte{nil, norms.Small(), bytesOf(nil, nil), bytesOf([]api.Class{one(5, 9)}, []api.Decomp{{Code: 6, A: 5, B: 7}})} {
		f.Add(b[len(b)-payloadLong(b):])
	}
	f.Fuzz(func(t *testing.T, payload []byte) {
		wantOneForm(t, payload)
		wantOneForm(t, frameOf(payload))
		wantErrOf(t, payload)
	})
}

// P5.8

func wantToTheEnd(t *testing.T, n *norms.Norms, r rune) {
	t.Helper()
	for _, x := range n.Decomp(r) {
		if l := n.Decomp(x); !slices.Equal(l, []rune{x}) {
			t.Fatalf("%x comes to %x; %x of it comes to %x", r, n.Decomp(r), x, l)
		}
	}
}

func TestToTheEnd(t *testing.T) {
	r := rand.New(rand.NewSource(4))
	for range 300 {
		m := goodModel(r)
		n := made(t, m.c, m.d)
		for _, d := range m.d {
			wantToTheEnd(t, n, d.Code)
		}
	}
	n := load(t, norms.Small())
	for r := range rune(0x110000) {
		wantToTheEnd(t, n, r)
	}
}
