package pack_test

import (
	"bytes"
	"encoding/binary"
	"math"
	"math/rand"
	"slices"
	"testing"

	"lectern/api"
	"lectern/norms"
	"lectern/pack"
	"lectern/valid"
	"lectern/weight"
)

// The model: what a payload stands for, by the library's varints, of which those in a longer form are none.

type bare struct {
	rest []byte
	bad  bool
}

func (x *bare) number() int {
	n, long := binary.Uvarint(x.rest)
	if x.bad = x.bad || long <= 0 || n > math.MaxInt32 || len(binary.AppendUvarint(nil, n)) != long; x.bad {
		return 0
	}
	x.rest = x.rest[long:]
	return int(n)
}

func (x *bare) flag() bool {
	n := x.number()
	x.bad = x.bad || n > 1
	return n == 1
}

func (x *bare) field() []byte {
	n := x.number()
	if x.bad = x.bad || n > api.MaxField || n > len(x.rest); x.bad {
		return nil
	}
	f := x.rest[:n]
	x.rest = x.rest[n:]
	return f
}

// parse takes a payload apart; false, if it stands for nothing.
func parse(payload []byte) (data []byte, s api.Source, is bool) {
	rest, is := bytes.CutPrefix(payload, []byte("UCT1"))
	x := &bare{rest: rest, bad: !is}
	data = x.field()
	s.Version = string(x.field())
	for n := x.number(); n > 0 && !x.bad; n-- {
		var one api.Implicit
		one.From, one.To = rune(x.number()), rune(x.number())
		one.Base = x.number()
		one.Whole = x.flag()
		s.Ranges = append(s.Ranges, one)
	}
	for n := x.number(); n > 0 && !x.bad; n-- {
		var one api.Entry
		for m := x.number(); m > 0 && !x.bad; m-- {
			one.Codes = append(one.Codes, rune(x.number()))
		}
		for m := x.number(); m > 0 && !x.bad; m-- {
			var e api.Element
			e.P = x.number()
			e.S = x.number()
			e.T = x.number()
			e.Var = x.flag()
			one.Elements = append(one.Elements, e)
		}
		s.Entries = append(s.Entries, one)
	}
	return data, s, !x.bad && len(x.rest) == 0
}

// errOf is Load's error of a payload in its frame.
func errOf(payload []byte) api.Errno {
	data, s, is := parse(payload)
	if !is {
		return api.ErrPack
	}
	n, e := norms.Load(data)
	if e != api.OK {
		return e
	}
	_, e = valid.Check(n, s)
	return e
}

// hold holds all that Load tells of a payload in its frame against the model.
func hold(t testing.TB, payload []byte) api.Errno {
	t.Helper()
	b := frameOf(payload)
	x, e := pack.Load(b)
	if w := errOf(payload); e != w || (x != nil) != (e == api.OK) {
		t.Fatalf("Load of % x: table %t, error %d; want error %d", b, x != nil, e, w)
	}
	if e != api.OK {
		want(t, "Check", pack.Check(x), api.ErrTable)
		return e
	}
	data, s, _ := parse(payload)
	wantSource(t, "Source", x.Source(), s)
	want(t, "Version", x.Version(), s.Version)
	want(t, "Ranges", slices.Equal(x.Ranges(), s.Ranges), true)
	wantBytes(t, "Bytes", x.Bytes(), b)
	want(t, "Id", x.Id(), int(sumOf(b)))
	want(t, "Check", pack.Check(x), api.OK)
	wantBytes(t, "the data", dataOf(t, x), data)
	want(t, "Made", x.Made(), 0)
	want(t, "Len", x.Trie().Len(), len(s.Entries))
	want(t, "Made", x.Made(), 1)
	wantOneForm(t, x)
	return e
}

// dataOf are the bytes of a table's data.
func dataOf(t testing.TB, x *pack.Table) []byte {
	t.Helper()
	return build(t, x.Norms().Classes(), slices.Collect(x.Norms().Decomps()))
}

// P12.5: what Load tells is made into the same bytes.
func wantOneForm(t testing.TB, x *pack.Table) {
	t.Helper()
	wantBytes(t, "Make of what Load tells", made(t, dataOf(t, x), x.Source()), x.Bytes())
}

// Tables

func pick[T any](r *rand.Rand, l []T) T { return l[r.Intn(len(l))] }

var (
	letters = []rune{0, 'a', 'b', 0x7f, 0x80, 0x1100, 0x4e00, 0x10ffff}
	marks   = []rune{0x301, 0x302, 0x323, 0x327, 0x338, 0x345}
)

// someData are data of all sizes.
func someData(t testing.TB, r *rand.Rand) []byte {
	t.Helper()
	switch r.Intn(4) {
	case 0:
		return build(t, nil, nil)
	case 1:
		var d []api.Decomp
		for i := range rune(r.Intn(30)) {
			d = append(d, api.Decomp{Code: 0x20000 + i, A: pick(r, letters[1:]), B: 0x301})
		}
		return build(t, []api.Class{{From: 0x300, To: 0x345, Class: 1 + r.Intn(254)}}, d)
	}
	return norms.Small()
}

// someElements are well ordered, each level in a band of its own.
func someElements(r *rand.Rand) []api.Element {
	out := make([]api.Element, r.Intn(17)>>r.Intn(5))
	variable := r.Intn(4) == 0
	for i := range out {
		switch r.Intn(6) {
		case 0:
			out[i] = elem(0, 0, 0x38+r.Intn(8))
		case 1:
			out[i] = elem(0, 0x100+r.Intn(0x100), 1+r.Intn(0x37))
		case 2:
		case 3:
			if variable {
				out[i] = varied(1+r.Intn(300), 1+r.Intn(0xff), 1+r.Intn(0x37))
			}
		default:
			if !variable {
				out[i] = elem(400+r.Intn(0xfaff-400), 1+r.Intn(0xff), 1+r.Intn(0x37))
			}
		}
	}
	return out
}

// someSource is well formed under the small data, mostly.
func someSource(r *rand.Rand) api.Source {
	s := api.Source{Version: string(make([]byte, 1+r.Intn(32)))}
	version := []byte(s.Version)
	for i := range version {
		version[i] = byte(33 + r.Intn(94))
	}
	s.Version = string(version)
	for at := rune(r.Intn(300)); len(s.Ranges) < 1+r.Intn(5); at += 1 + rune(r.Intn(0x20000)) {
		one := api.Implicit{From: at, To: at + rune(r.Intn(0x8000)), Base: pick(r, []int{0xfb40, 0xfb80})}
		if one.Whole = r.Intn(2) == 0; one.Whole {
			one.Base = 0xfb00 + r.Intn(0x40)
		}
		s.Ranges = append(s.Ranges, one)
		at = one.To
	}
	if r.Intn(4) == 0 {
		s.Ranges = pick(r, [][]api.Implicit{nil, weight.Unified()})
	}
	for range r.Intn(12) {
		var codes []rune
		for range 1 + r.Intn(8)>>r.Intn(4) {
			codes = append(codes, pick(r, letters))
		}
		if r.Intn(3) == 0 {
			codes[len(codes)-1] = pick(r, marks)
		}
		has := func(l []rune) bool {
			return slices.ContainsFunc(s.Entries, func(y api.Entry) bool { return slices.Equal(l, y.Codes) })
		}
		if prefix := codes[:len(codes)-1]; len(codes) > 2 && !has(prefix) {
			s.Entries = append(s.Entries, api.Entry{Codes: slices.Clone(prefix), Elements: someElements(r)})
		}
		if !has(codes) {
			s.Entries = append(s.Entries, api.Entry{Codes: codes, Elements: someElements(r)})
		}
	}
	return s
}

// spoilt is a source of which something is otherwise.
func spoilt(r *rand.Rand, s api.Source) api.Source {
	s.Entries = append(s.Entries, pick(r, []api.Entry{
		{}, entry("a"), entry("abcdefghi"), entry("\u00e9"), entry("\u0301\u0323"), entry("cd\u0301"), entry("c", elem(0, 0x20, 2)), entry("c", elem(0, 0, 2)),
		entry("c", varied(0xfa00, 1, 1)), entry("c", elem(1, 1, 1), varied(1, 1, 1)), entry("c", elem(0xfb00, 1, 1)), entry("c", slices.Repeat([]api.Element{elem(400, 1, 1)}, 15+r.Intn(4))...),
	}))
	r.Shuffle(len(s.Entries), func(i, j int) { s.Entries[i], s.Entries[j] = s.Entries[j], s.Entries[i] })
	return s
}

// P12.5

func TestThereAndBack(t *testing.T) {
	r := rand.New(rand.NewSource(1))
	well := 0
	for range 5000 {
		data, s := someData(t, r), someSource(r)
		b, _, e := pack.Make(data, s)
		want(t, "Make's error", e, errOf(join(partsOf(data, s))))
		if e != api.OK {
			continue
		}
		well++
		x := load(t, b)
		wantSource(t, "Source", x.Source(), s)
		wantBytes(t, "the data", dataOf(t, x), data)
		wantBytes(t, "Bytes", x.Bytes(), b)
		wantBytes(t, "Make", b, frameOf(join(partsOf(data, s))))
		wantOneForm(t, x)
		two := load(t, made(t, dataOf(t, x), x.Source()))
		want(t, "Same", x.Same(two), true)
		want(t, "Id", x.Id(), two.Id())
	}
	if well < 3000 {
		t.Errorf("%d of 5000 are well formed, which shows little", well)
	}
	for _, s := range []api.Source{valid.Small(), greatest(), shortSource(), valid.Sort(valid.Small())} {
		wantOneForm(t, load(t, made(t, norms.Small(), s)))
	}
}

// Two tables that differ have other bytes.
func TestOtherTablesHaveOtherBytes(t *testing.T) {
	base := func() api.Source { return shortSource() }
	first := made(t, norms.Small(), base())
	for i, change := range []func(*api.Source){
		func(s *api.Source) { s.Version = "v2" },
		func(s *api.Source) { s.Ranges = s.Ranges[:1] },
		func(s *api.Source) { s.Ranges[0].From++ },
		func(s *api.Source) { s.Ranges[0].To-- },
		func(s *api.Source) { s.Ranges[0].Base = 0xfb40 },
		func(s *api.Source) { s.Ranges[1].Base = 0xfb40; s.Ranges[1].Whole = false },
		func(s *api.Source) { slices.Reverse(s.Entries) },
		func(s *api.Source) { s.Entries = s.Entries[:2] },
		func(s *api.Source) { s.Entries[0].Codes[1]++ },
		func(s *api.Source) { s.Entries[0].Codes = s.Entries[0].Codes[:1] },
		func(s *api.Source) { s.Entries[0].Elements = s.Entries[0].Elements[:1] },
		func(s *api.Source) { s.Entries[0].Elements[0].P++ },
		func(s *api.Source) { s.Entries[0].Elements[1].S++ },
		func(s *api.Source) { s.Entries[0].Elements[1].T++ },
		func(s *api.Source) { s.Entries[1].Elements[0].Var = false },
		func(s *api.Source) { s.Entries[2].Elements = []api.Element{{}} },
	} {
		s := base()
		change(&s)
		b := made(t, norms.Small(), s)
		if bytes.Equal(b, first) || pack.Id(b) == pack.Id(first) || load(t, b).Same(load(t, first)) {
			t.Errorf("change %d has the same bytes", i)
		}
		wantSource(t, "a change", load(t, b).Source(), s)
	}
}

// P12.6

func TestAnyBytes(t *testing.T) {
	r := rand.New(rand.NewSource(2))
	kinds := map[api.Errno]int{}
	for range 20_000 {
		b := make([]byte, r.Intn(60))
		r.Read(b)
		if x, e := pack.Load(b); x != nil || e != api.ErrPack {
			t.Fatalf("Load of % x: error %d", b, e)
		}
		s := someSource(r)
		if r.Intn(5) == 0 {
			s = spoilt(r, s)
		}
		payload := join(partsOf(someData(t, r), s))
		kinds[hold(t, payload)]++
		for range r.Intn(3) {
			payload = changed(r, payload)
		}
		kinds[hold(t, payload)]++
	}
	for _, e := range []api.Errno{api.OK, api.ErrPack, api.ErrNorms, api.ErrVersion, api.ErrImpl, api.ErrSeq, api.ErrLong, api.ErrWeight, api.ErrTwin, api.ErrNormal, api.ErrPrefix, api.ErrOrder, api.ErrVar} {
		if kinds[e] < 50 {
			t.Errorf("error %d: %d times, which shows little: %v", e, kinds[e], kinds)
		}
	}
}

// changed is a payload with something otherwise.
func changed(r *rand.Rand, payload []byte) []byte {
	out := slices.Clone(payload)
	if len(out) == 0 {
		return []byte{0}
	}
	at := r.Intn(len(out))
	if r.Intn(2) == 0 { // the end has the entries
		at = len(out) - 1 - r.Intn(min(len(out), 60))
	}
	switch r.Intn(6) {
	case 0:
		out[at] = byte(r.Intn(256))
	case 1:
		out[at] ^= 1 << r.Intn(8)
	case 2:
		out[at] += byte(r.Intn(3))
	case 3:
		out = out[:at]
	case 4:
		out = append(out, byte(r.Intn(3)))
	case 5:
		out = slices.Insert(out, at, byte(r.Intn(256)))
	}
	return out
}

// Each bit of the frame, its length and sum too.
func TestOneBit(t *testing.T) {
	r := rand.New(rand.NewSource(3))
	l := [][]byte{
		made(t, norms.Small(), valid.Small()), made(t, norms.Small(), shortSource()), made(t, build(t, nil, nil), shortSource()), made(t, build(t, nil, nil), api.Source{Version: "1"}),
	}
	for len(l) < 20 {
		if b, _, e := pack.Make(build(t, nil, nil), someSource(r)); e == api.OK {
			l = append(l, b)
		}
	}
	for _, b := range l {
		for at := range b {
			for bit := range 8 {
				b[at] ^= 1 << bit
				wantRefused(t, "one bit", b, api.ErrPack)
				b[at] ^= 1 << bit
			}
		}
		load(t, b)
	}
	big := made(t, norms.Small(), greatest())
	for range 50 {
		at, bit := r.Intn(len(big)), r.Intn(8)
		big[at] ^= 1 << bit
		wantRefused(t, "one bit", big, api.ErrPack)
		big[at] ^= 1 << bit
	}
}

func FuzzLoad(f *testing.F) {
	for _, data := range [][]byte{norms.Small(), frameOf([]byte("NRM1\x00\x00")), nil} {
		for _, s := range []api.Source{{}, {Version: "1"}, shortSource(), source(entry("a", elem(1, 2, 3)), entry("b"))} {
			f.Add(join(partsOf(data, s)))
		}
	}
	f.Fuzz(func(t *testing.T, payload []byte) {
		hold(t, payload)
		if x, e := pack.Load(payload); e == api.OK {
			wantOneForm(t, x)
		}
	})
}
