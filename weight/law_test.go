package weight_test

import (
	"fmt"
	"math"
	"math/rand"
	"regexp"
	"slices"
	"strconv"
	"testing"

	"lectern/api"
	"lectern/weight"
)

// The model: the chapter's words one by one, by other means where the library has them.

func show(e api.Element) string { return fmt.Sprintf("%v", e) }

func checkOf(e api.Element) api.Errno {
	for _, may := range []bool{
		e.P >= 0 && e.P <= 0xffff && e.S >= 0 && e.S <= 0x1ff && e.T >= 0 && e.T <= 0x3f,
		e.P == 0 || e.S != 0 && e.T != 0,
		e.S == 0 || e.T != 0,
		!e.Var || e.P != 0,
		e.P < 0xfb00,
	} {
		if !may {
			return api.ErrWeight
		}
	}
	return api.OK
}

func levelOf(e api.Element) int {
	return 1 + slices.IndexFunc([]int{e.P, e.S, e.T}, func(w int) bool { return w != 0 })
}

func rangesOf(l []api.Implicit) api.Errno {
	if len(l) > 100 {
		return api.ErrLong
	}
	for i, x := range l {
		for _, may := range []bool{
			x.From >= 0 && x.From <= 0x10ffff && x.To >= 0 && x.To <= 0x10ffff,
			x.From <= x.To,
			i == 0 || x.From > l[i-1].To,
			x.Base >= 0xfb00 && x.Base <= 0xfbbf,
			x.Whole || x.Base == 0xfb40 || x.Base == 0xfb80,
			!x.Whole || x.Base < 0xfb40,
			!x.Whole || int64(x.To)-int64(x.From)+1 <= 0x8000,
		} {
			if !may {
				return api.ErrImpl
			}
		}
	}
	return api.OK
}

func implicitOf(r rune, l []api.Implicit) []api.Element {
	if r < 0 || r > 0x10ffff {
		return nil
	}
	base, low := 0xfbc0, r%0x8000
	for _, x := range l {
		if r < x.From || r > x.To {
			continue
		}
		if x.Whole {
			place := int64(r) - int64(x.From)
			if place > math.MaxInt32 {
				place -= 1 << 32
			}
			return byRule(x.Base, int(place|0x8000))
		}
		base = x.Base
		break
	}
	return byRule(base+int(r/0x8000), int(low+0x8000))
}

func showOf(e api.Element) string {
	for _, w := range []int{e.P, e.S, e.T} {
		if w < 0 || w > 0xffff {
			return ""
		}
	}
	mark := "."
	if e.Var {
		mark = "*"
	}
	return fmt.Sprintf("[%s%04X.%04X.%04X]", mark, e.P, e.S, e.T)
}

var form = regexp.MustCompile(`^\[([.*])([0-9A-F]{4})\.([0-9A-F]{4})\.([0-9A-F]{4})\]`)

func readOf(s string) (api.Element, int, api.Errno) {
	parts := form.FindStringSubmatch(s)
	if parts == nil {
		return api.Element{}, 0, api.ErrNone
	}
	var w [3]int
	for i := range w {
		n, _ := strconv.ParseUint(parts[2+i], 16, 16)
		w[i] = int(n)
	}
	e := api.Element{P: w[0], S: w[1], T: w[2], Var: parts[1] == "*"}
	if err := checkOf(e); err != api.OK {
		return api.Element{}, 0, err
	}
	return e, len(parts[0]), api.OK
}

func compareOf(a, b api.Element) int {
	return slices.Compare([]int{a.P, a.S, a.T}, []int{b.P, b.S, b.T})
}

// What all is held against it.

// edgeWeights are weights on both sides of all limits.
var edgeWeights = []int{
	0, 0, 1, 2, 0x20, 0x3e, 0x3f, 0x40, 0x1fe, 0x1ff, 0x200, 0x7fff, 0x8000, 0xfafe, 0xfaff, 0xfb00, 0xfb40, 0xfbc0, 0xfffe, 0xffff, 0x10000, 0x10001,
	-1, -2, math.MinInt32, math.MaxInt32, math.MinInt, math.MaxInt, 1 << 32,
}

func someWeight(r *rand.Rand, most int) int {
	if r.Intn(4) == 0 {
		return edgeWeights[r.Intn(len(edgeWeights))]
	}
	return r.Intn(most+1) >> r.Intn(16)
}

func someElement(r *rand.Rand) api.Element {
	return api.Element{P: someWeight(r, 0xffff), S: someWeight(r, 0x1ff), T: someWeight(r, 0x3f), Var: r.Intn(2) == 0}
}

// goodElement is one that may be.
func goodElement(r *rand.Rand) api.Element {
	e := api.Element{P: 1 + r.Intn(0xfaff), S: 1 + r.Intn(0x1ff), T: 1 + r.Intn(0x3f)}
	switch r.Intn(5) {
	case 0:
		e.P = 0
	case 1:
		e.P, e.S = 0, 0
	case 2:
		e.Var = true
	}
	return e
}

func holdElement(t *testing.T, e api.Element) {
	t.Helper()
	if got := weight.Check(e); got != checkOf(e) {
		t.Fatalf("Check of %v: %d", e, got)
	}
	if got := weight.Level(e); got != levelOf(e) {
		t.Fatalf("Level of %v: %d", e, got)
	}
	if got := weight.Show(e); got != showOf(e) {
		t.Fatalf("Show of %v: %s", e, got)
	}
}

func TestAllElementsOfEdges(t *testing.T) {
	for _, p := range []int{-1, 0, 1, 0xfaff, 0xfb00} {
		for s := -1; s <= 0x201; s++ {
			for l := -1; l <= 0x41; l++ {
				holdElement(t, elem(p, s, l))
				holdElement(t, varied(p, s, l))
			}
		}
	}
	for p := -1; p <= 0x10000; p++ {
		for w := range 2 {
			holdElement(t, elem(p, w, 1))
			holdElement(t, varied(p, 1, w))
		}
	}
}

func TestAnyElements(t *testing.T) {
	r := rand.New(rand.NewSource(1))
	for range 200_000 {
		a, b := someElement(r), someElement(r)
		holdElement(t, a)
		if r.Intn(2) == 0 {
			b.P = a.P
			if r.Intn(2) == 0 {
				b.S = a.S
			}
		}
		if got := weight.Compare(a, b); got != compareOf(a, b) || weight.Compare(b, a) != -got {
			t.Fatalf("Compare of %v and %v: %d", a, b, got)
		}
	}
}

func holdRead(t *testing.T, s string) {
	t.Helper()
	e, long, err := weight.Read(s)
	wantE, wantLong, wantErr := readOf(s)
	if e != wantE || long != wantLong || err != wantErr {
		t.Fatalf("Read of %q: %v, %d, error %d; want %v, %d, error %d", s, e, long, err, wantE, wantLong, wantErr)
	}
}

// Each byte at each place of a form.
func TestReadOfAllBytes(t *testing.T) {
	for _, s := range []string{"[.1C47.0020.0002]", "[*0201.0020.0002]", "[.0000.0000.0000]", "[.FFFF.FFFF.FFFF]"} {
		for at := range len(s) {
			for c := range 256 {
				b := []byte(s)
				b[at] = byte(c)
				holdRead(t, string(b))
				holdRead(t, string(b)+s)
				holdRead(t, string(slices.Delete(b, at, at+1)))
				holdRead(t, string(slices.Insert([]byte(s), at, byte(c))))
			}
		}
	}
}

func TestReadOfAnyTexts(t *testing.T) {
	const chars = "[]..*0000011129ABCDEFabcfG \xff\x80é"
	r := rand.New(rand.NewSource(2))
	read := 0
	for range 200_000 {
		b := []byte(showOf(goodElement(r)))
		for range r.Intn(3) {
			b[r.Intn(len(b))] = chars[r.Intn(len(chars))]
		}
		if r.Intn(10) == 0 {
			b = b[:r.Intn(len(b)+1)]
		}
		holdRead(t, string(b))
		if _, _, e := weight.Read(string(b)); e == api.OK {
			read++
		}
	}
	if read < 20_000 || read > 180_000 {
		t.Errorf("%d of 200,000 are read: that shows little of the one kind", read)
	}
}

func FuzzRead(f *testing.F) {
	for _, s := range []string{"", "[.1C47.0020.0002]", "[*0201.0020.0002]x", "[.FFFF.FFFF.FFFF]", "[.1c47.0020.0002]", "[.1é7.0020.0002]"} {
		f.Add(s)
	}
	f.Fuzz(holdRead)
}

// someRune is one of few, so that ranges meet, or one of all.
func someRune(r *rand.Rand) rune {
	switch r.Intn(6) {
	case 0:
		return []rune{-1, 0, 0x7fff, 0x8000, 0xd800, 0x10ffff, 0x110000, math.MinInt32, math.MaxInt32, -math.MaxInt32, -0x8000}[r.Intn(11)]
	case 1:
		return rune(r.Uint32())
	}
	return rune(r.Intn(0x110000) >> r.Intn(21))
}

var edgeBases = []int{0xfaff, 0xfb00, 0xfb01, 0xfb3f, 0xfb40, 0xfb41, 0xfb7f, 0xfb80, 0xfb81, 0xfbbf, 0xfbc0, 0, -1, math.MinInt, math.MaxInt}

// anyRanges are mostly such as Ranges refuses.
func anyRanges(r *rand.Rand) []api.Implicit {
	l := make([]api.Implicit, r.Intn(5))
	for i := range l {
		l[i] = api.Implicit{From: someRune(r), To: someRune(r), Base: edgeBases[r.Intn(len(edgeBases))], Whole: r.Intn(2) == 0}
	}
	return l
}

// goodRanges are such as Ranges takes, some right behind others.
func goodRanges(r *rand.Rand) []api.Implicit {
	var l []api.Implicit
	for at := rune(r.Intn(3)); at <= 0x10ffff && len(l) < 100; {
		x := api.Implicit{From: at, Whole: r.Intn(2) == 0, Base: []int{0xfb40, 0xfb80}[r.Intn(2)]}
		long := rune(1 + r.Intn(0x40000)>>r.Intn(19))
		if x.Whole {
			x.Base, long = 0xfb00+r.Intn(0x40), min(long, 0x8000)
		}
		x.To = min(at+long-1, 0x10ffff)
		l = append(l, x)
		at = x.To + 1 + rune(r.Intn(2)*(r.Intn(0x20000)>>r.Intn(17)))
	}
	return l
}

func holdRanges(t *testing.T, l []api.Implicit) {
	t.Helper()
	if got := weight.Ranges(l); got != rangesOf(l) {
		t.Fatalf("Ranges of %v: %d", l, got)
	}
}

func holdImplicit(t *testing.T, n rune, l []api.Implicit) {
	t.Helper()
	if got := weight.Implicit(n, l); !slices.Equal(got, implicitOf(n, l)) {
		t.Fatalf("Implicit of %x by %v: %v, want %v", n, l, got, implicitOf(n, l))
	}
}

func TestAnyRanges(t *testing.T) {
	r := rand.New(rand.NewSource(3))
	for range 50_000 {
		l := anyRanges(r)
		holdRanges(t, l)
		for range 10 {
			holdImplicit(t, someRune(r), l)
		}
		for _, x := range l {
			for _, n := range []rune{x.From - 1, x.From, x.To, x.To + 1} {
				holdImplicit(t, n, l)
			}
		}
	}
}

// What Ranges takes, and that with one thing changed.
func TestRangesNearlySo(t *testing.T) {
	r := rand.New(rand.NewSource(4))
	for range 4000 {
		l := goodRanges(r)
		if e := weight.Ranges(l); e != api.OK {
			t.Fatalf("Ranges of %v: %d", l, e)
		}
		for _, x := range l {
			for _, n := range []rune{x.From - 1, x.From, x.To, x.To + 1, (x.From + x.To) / 2} {
				holdImplicit(t, n, l)
			}
		}
		x := &l[r.Intn(len(l))]
		switch r.Intn(6) {
		case 0:
			x.From += rune(r.Intn(5) - 2)
		case 1:
			x.To += rune(r.Intn(5) - 2)
		case 2:
			x.Whole = !x.Whole
		case 3:
			x.Base = edgeBases[r.Intn(len(edgeBases))]
		case 4:
			*x = l[r.Intn(len(l))]
		case 5:
			x.From, x.To = someRune(r), someRune(r)
		}
		holdRanges(t, l)
	}
}

func TestImplicitOfAllCodePoints(t *testing.T) {
	for n := rune(-0x100); n < 0x110100; n++ {
		holdImplicit(t, n, nil)
		holdImplicit(t, n, weight.Unified())
	}
}

// P7.8

// baseOf is the Base of the range that holds n; 0, if none does.
func baseOf(n rune, l []api.Implicit) int {
	for _, x := range l {
		if x.From <= n && n <= x.To {
			return x.Base
		}
	}
	return 0
}

// wantRise fails unless the elements of each code point that is tried are above those of the one ahead of its kind.
func wantRise(t *testing.T, l []api.Implicit, tried []rune) {
	t.Helper()
	ahead := map[int]rune{}
	for _, n := range tried {
		base := baseOf(n, l)
		if least, any := ahead[base]; any && slices.CompareFunc(weight.Implicit(least, l), weight.Implicit(n, l), weight.Compare) >= 0 {
			t.Fatalf("by %v: %x comes to %v, and %x to %v", l, least, weight.Implicit(least, l), n, weight.Implicit(n, l))
		}
		ahead[base] = n
	}
}

func allCodes() []rune {
	l := make([]rune, 0x110000)
	for i := range l {
		l[i] = rune(i)
	}
	return l
}

func TestRulesRise(t *testing.T) {
	all := allCodes()
	for _, l := range [][]api.Implicit{
		nil, weight.Unified(), {split(0, 0x10ffff, 0xfb40)}, {split(0x10, 0xffff, 0xfb80), whole(0x10000, 0x17fff, 0xfb3f), split(0x18000, 0x10ffff, 0xfb80)},
	} {
		wantRise(t, l, all)
	}
}

// Of ranges that are Whole, and behind one another share a Base, P7.4 counts each from its own first one: that can't rise, so here
// each has a Base of its own.
func TestRulesOfAnyRangesRise(t *testing.T) {
	r := rand.New(rand.NewSource(5))
	for range 3000 {
		l := goodRanges(r)
		seen := map[int]bool{}
		l = slices.DeleteFunc(l, func(x api.Implicit) bool {
			again := x.Whole && seen[x.Base]
			seen[x.Base] = true
			return again
		})
		tried := []rune{0, 0x7fff, 0x8000, 0x10ffff}
		for _, x := range l {
			for _, n := range []rune{x.From - 1, x.From, x.From + 1, (x.From + x.To) / 2, x.To - 1, x.To, x.To + 1} {
				tried = append(tried, min(max(n, 0), 0x10ffff))
			}
		}
		slices.Sort(tried)
		wantRise(t, l, slices.Compact(tried))
	}
}

// No rule's first primary is one that an element may have, and no rule's two are 0.
func TestRulesAreAboveEntries(t *testing.T) {
	r := rand.New(rand.NewSource(6))
	for range 5000 {
		l := goodRanges(r)
		for range 20 {
			n := rune(r.Intn(0x110000))
			e := weight.Implicit(n, l)
			if len(e) != 2 || e[0].P < 0xfb00 || e[0].P > 0xffff || e[1].P < 0x8000 || e[1].P > 0xffff || weight.Check(e[0]) != api.ErrWeight {
				t.Fatalf("Implicit of %x by %v: %v", n, l, e)
			}
		}
	}
	wantErr(t, "the greatest of entries", weight.Check(elem(0xfaff, 0x20, 2)), api.OK)
	wantErr(t, "the least of rules", weight.Check(elem(0xfb00, 0x20, 2)), api.ErrWeight)
}

// P7.9

func wantThereAndBack(t *testing.T, e api.Element) {
	t.Helper()
	if err := weight.Check(e); err != api.OK {
		t.Fatalf("Check of %v: %d", e, err)
	}
	s := weight.Show(e)
	if got, long, err := weight.Read(s); got != e || long != len(s) || err != api.OK {
		t.Fatalf("%v is %s, and that %v, %d, error %d", e, s, got, long, err)
	}
}

func TestThereAndBack(t *testing.T) {
	wantThereAndBack(t, api.Element{})
	for p := 1; p < 0xfb00; p++ {
		wantThereAndBack(t, elem(p, 0x20, 2))
		wantThereAndBack(t, varied(p, 1+p%0x1ff, 1+p%0x3f))
	}
	for s := 1; s <= 0x1ff; s++ {
		for l := 1; l <= 0x3f; l++ {
			wantThereAndBack(t, elem(0, s, l))
			wantThereAndBack(t, elem(0, 0, l))
			wantThereAndBack(t, elem(0x510, s, l))
		}
	}
	r := rand.New(rand.NewSource(7))
	for range 100_000 {
		wantThereAndBack(t, goodElement(r))
	}
}
