package pack_test

import (
	"bytes"
	"encoding/binary"
	"hash/crc32"
	"slices"
	"strconv"
	"strings"
	"sync"
	"testing"

	"lectern/api"
	"lectern/norms"
	"lectern/pack"
	"lectern/table"
	"lectern/trie"
	"lectern/valid"
	"lectern/weight"
)

func want[T comparable](t testing.TB, what string, got, want T) {
	t.Helper()
	if got != want {
		t.Errorf("%s: %v, want %v", what, got, want)
	}
}

func wantBytes(t testing.TB, what string, got, want []byte) {
	t.Helper()
	if !bytes.Equal(got, want) {
		t.Errorf("%s: % x, want % x", what, got, want)
	}
}

func elem(p, s, t int) api.Element { return api.Element{P: p, S: s, T: t} }

func varied(p, s, t int) api.Element { return api.Element{P: p, S: s, T: t, Var: true} }

func entry(codes string, l ...api.Element) api.Entry {
	return api.Entry{Codes: []rune(codes), Elements: l}
}

func source(l ...api.Entry) api.Source {
	return api.Source{Version: "1", Ranges: weight.Unified(), Entries: l}
}

func showSource(s api.Source) string {
	out := "version " + strconv.Quote(s.Version) + ", " + strconv.Itoa(len(s.Ranges)) + " ranges"
	for _, x := range s.Entries {
		out += "\n" + table.Show(x.Codes) + " ;"
		for _, e := range x.Elements {
			out += " " + weight.Show(e)
		}
	}
	return out[:min(len(out), 2000)]
}

func sameEntry(a, b api.Entry) bool {
	return slices.Equal(a.Codes, b.Codes) && slices.Equal(a.Elements, b.Elements)
}

func wantSource(t testing.TB, what string, got, want api.Source) {
	t.Helper()
	if got.Version != want.Version || !slices.Equal(got.Ranges, want.Ranges) || !slices.EqualFunc(got.Entries, want.Entries, sameEntry) {
		t.Errorf("%s: %s\nwant %s", what, showSource(got), showSource(want))
	}
}

// cloned shares nothing with s.
func cloned(s api.Source) api.Source {
	out := api.Source{Version: s.Version, Ranges: slices.Clone(s.Ranges)}
	for _, x := range s.Entries {
		out.Entries = append(out.Entries, api.Entry{Codes: slices.Clone(x.Codes), Elements: slices.Clone(x.Elements)})
	}
	return out
}

// clobber changes all that s has, and what is behind its lists.
func clobber(s api.Source) {
	for i := range s.Ranges[:cap(s.Ranges)] {
		s.Ranges[:cap(s.Ranges)][i] = api.Implicit{From: -7}
	}
	for _, x := range s.Entries[:cap(s.Entries)] {
		for i := range x.Codes[:cap(x.Codes)] {
			x.Codes[:cap(x.Codes)][i] = -7
		}
		for i := range x.Elements[:cap(x.Elements)] {
			x.Elements[:cap(x.Elements)][i] = varied(-7, -7, -7)
		}
	}
	for i := range s.Entries[:cap(s.Entries)] {
		s.Entries[:cap(s.Entries)][i] = api.Entry{Codes: []rune("clobbered")}
	}
}

// build is norms' Build of what has to succeed, made is Make, and load Load of that.
func build(t testing.TB, c []api.Class, d []api.Decomp) []byte {
	t.Helper()
	b, e := norms.Build(c, d)
	if e != api.OK {
		t.Fatalf("norms.Build of %x, %x: error %d", c, d, e)
	}
	return b
}

func made(t testing.TB, data []byte, s api.Source) []byte {
	t.Helper()
	b, place, e := pack.Make(data, s)
	if place != 0 || e != api.OK {
		t.Fatalf("Make: place %d, error %d\n%s", place, e, showSource(s))
	}
	return b
}

func load(t testing.TB, b []byte) *pack.Table {
	t.Helper()
	x, e := pack.Load(b)
	if x == nil || e != api.OK {
		t.Fatalf("Load of % x: error %d", b, e)
	}
	return x
}

// small is the small table with the small data, loaded.
func small(t testing.TB) *pack.Table {
	t.Helper()
	return load(t, made(t, norms.Small(), valid.Small()))
}

// notMade are tables that Load did not make.
func notMade() []*pack.Table { return []*pack.Table{nil, {}, new(pack.Table)} }

// sumOf and frameOf are crc's Sum and Frame by other means.
func sumOf(b []byte) uint32 { return crc32.Checksum(b, crc32.MakeTable(crc32.Castagnoli)) }

func frameOf(payload []byte) []byte {
	sum := sumOf(payload)
	out := binary.AppendUvarint(nil, uint64(len(payload)))
	out = binary.LittleEndian.AppendUint32(out, (sum>>15|sum<<17)+0xA282EAD8)
	return append(out, payload...)
}

// payloadOf is what the frame b holds.
func payloadOf(b []byte) []byte {
	long, wide := binary.Uvarint(b)
	return slices.Clone(b[wide+4:][:long])
}

// greatest is a source that is as great as may be, with weights that need the most bytes.
func greatest() api.Source {
	s := api.Source{Version: strings.Repeat("~", api.MaxVersion)}
	for i := range rune(api.MaxRanges) {
		s.Ranges = append(s.Ranges, api.Implicit{From: 0x100000 + 2*i, To: 0x100001 + 2*i, Base: 0xfb3f, Whole: true})
	}
	l := slices.Repeat([]api.Element{elem(0xfaff, 0x1ff, 0x3f)}, api.MaxElements)
	for i := range rune(api.MaxEntries) {
		codes := slices.Repeat([]rune{0x10ffff}, api.MaxSeq)
		codes[3] -= i
		s.Entries = append(s.Entries, api.Entry{Codes: codes, Elements: l})
	}
	return s
}

// P12.1

func TestMake(t *testing.T) {
	none := build(t, nil, nil)
	some := build(t, []api.Class{{From: 0x300, To: 0x314, Class: 230}}, []api.Decomp{{Code: 0xe9, A: 'e', B: 0x301}})
	for what, x := range map[string]struct {
		data []byte
		s    api.Source
		rest string // behind the mark and the data
	}{
		"nothing":       {none, api.Source{Version: "1"}, "\x011\x00\x00"},
		"empty lists":   {none, api.Source{Version: "1", Ranges: []api.Implicit{}, Entries: []api.Entry{}}, "\x011\x00\x00"},
		"other data":    {some, api.Source{Version: "1"}, "\x011\x00\x00"},
		"a version":     {none, api.Source{Version: "small-1"}, "\x07small-1\x00\x00"},
		"a long one":    {none, api.Source{Version: strings.Repeat("~", 32)}, "\x20" + strings.Repeat("~", 32) + "\x00\x00"},
		"a range":       {none, api.Source{Version: "1", Ranges: []api.Implicit{{From: 0x3400, To: 0x4db5, Base: 0xfb80}}}, "\x011\x01\x80\x68\xb5\x9b\x01\x80\xf7\x03\x00\x00"},
		"a whole one":   {none, api.Source{Version: "1", Ranges: []api.Implicit{{From: 0, To: 1, Base: 0xfb00, Whole: true}}}, "\x011\x01\x00\x01\x80\xf6\x03\x01\x00"},
		"two ranges":    {none, api.Source{Version: "1", Ranges: []api.Implicit{{From: 1, To: 2, Base: 0xfb40}, {From: 3, To: 0x10ffff, Base: 0xfb80}}}, "\x011\x02\x01\x02\xc0\xf6\x03\x00\x03\xff\xff\x43\x80\xf7\x03\x00\x00"},
		"an entry":      {none, api.Source{Version: "1", Entries: []api.Entry{entry("a", elem(0x510, 0x20, 2))}}, "\x011\x00\x01\x01a\x01\x90\x0a\x20\x02\x00"},
		"no elements":   {none, api.Source{Version: "1", Entries: []api.Entry{entry("\x00")}}, "\x011\x00\x01\x01\x00\x00"},
		"Level 0":       {none, api.Source{Version: "1", Entries: []api.Entry{entry("a", elem(0, 0, 0))}}, "\x011\x00\x01\x01a\x01\x00\x00\x00\x00"},
		"a variable":    {none, api.Source{Version: "1", Entries: []api.Entry{entry("-", varied(1, 0x20, 2))}}, "\x011\x00\x01\x01-\x01\x01\x20\x02\x01"},
		"several":       {none, api.Source{Version: "1", Entries: []api.Entry{entry("bc", elem(2, 3, 4), elem(0, 0x1ff, 5)), entry("a"), entry("\U0010ffff", elem(5, 4, 3))}}, "\x011\x00\x03\x02bc\x02\x02\x03\x04\x00\x00\xff\x03\x05\x00\x01a\x00\x01\xff\xff\x43\x01\x05\x04\x03\x00"},
		"both of these": {some, api.Source{Version: "v", Ranges: []api.Implicit{{From: 5, To: 9, Base: 0xfb40}}, Entries: []api.Entry{entry("e\u0301", elem(1, 2, 3))}}, "\x01v\x01\x05\x09\xc0\xf6\x03\x00\x01\x02e\x81\x06\x01\x01\x02\x03\x00"},
	} {
		was := cloned(x.s)
		data := slices.Clone(x.data)
		w := frameOf([]byte("UCT1" + string(rune(len(data))) + string(data) + x.rest))
		wantBytes(t, "Make of "+what, made(t, data, x.s), w)
		wantSource(t, "the source of "+what, x.s, was)
		wantBytes(t, "the data of "+what, data, x.data)
		wantSource(t, what+", loaded", load(t, w).Source(), was)
	}
}

func TestMakeOfTheSmallTable(t *testing.T) {
	wantBytes(t, "Make", made(t, norms.Small(), valid.Small()), frameOf(join(partsOf(norms.Small(), valid.Small()))))
}

func TestMakeOfTheGreatest(t *testing.T) {
	b := made(t, norms.Small(), greatest())
	wantSource(t, "the greatest", load(t, b).Source(), greatest())
	wantBytes(t, "the greatest", b, frameOf(join(partsOf(norms.Small(), greatest()))))
}

func wantMakeErr(t testing.TB, what string, data []byte, s api.Source, place int, err api.Errno) {
	t.Helper()
	was := cloned(s)
	b, at, e := pack.Make(data, s)
	if b != nil || at != place || e != err {
		t.Errorf("Make of %s: %d bytes, place %d, error %d; want place %d, error %d", what, len(b), at, e, place, err)
	}
	wantSource(t, "what was given", s, was)
}

func TestMakeWithoutData(t *testing.T) {
	twice := frameOf([]byte("NRM1\x02\x05\x05\x01\x05\x05\x01\x00"))
	loop := frameOf([]byte("NRM1\x00\x01\x05\x05\x00"))
	long := frameOf(append([]byte("NRM1\xa1\x1f"), make([]byte, 4001*3+1)...))
	for what, x := range map[string]struct {
		data []byte
		e    api.Errno
	}{
		"nil":             {nil, api.ErrNorms},
		"no bytes":        {[]byte{}, api.ErrNorms},
		"a byte more":     {append(norms.Small(), 0), api.ErrNorms},
		"a byte less":     {norms.Small()[:len(norms.Small())-1], api.ErrNorms},
		"a table":         {made(t, norms.Small(), valid.Small()), api.ErrNorms},
		"a class twice":   {twice, api.ErrClass},
		"a loop":          {loop, api.ErrDecomp},
		"many classes":    {long, api.ErrLong},
		"more than fits":  {make([]byte, api.MaxField+1), api.ErrNorms},
		"a frame of none": {frameOf(nil), api.ErrNorms},
	} {
		wantMakeErr(t, "data: "+what, x.data, valid.Small(), 0, x.e)
		s := valid.Small()
		s.Entries[5].Codes = nil
		wantMakeErr(t, "data and no entry: "+what, x.data, s, 0, x.e)
		s.Version = ""
		wantMakeErr(t, "data and no version: "+what, x.data, s, 0, x.e)
	}
}

func TestMakeOfWhatIsNotWellFormed(t *testing.T) {
	a, b := entry("a", elem(0x100, 0x20, 2)), entry("b", elem(0x101, 0x20, 2))
	for what, x := range map[string]struct {
		place int
		e     api.Errno
		last  api.Entry
	}{
		"no code points":     {2, api.ErrSeq, entry("")},
		"nine code points":   {2, api.ErrSeq, entry("abcdefghi")},
		"a surrogate":        {2, api.ErrSeq, api.Entry{Codes: []rune{0xd800}}},
		"below 0":            {2, api.ErrSeq, api.Entry{Codes: []rune{'a', -1}}},
		"seventeen elements": {2, api.ErrLong, entry("c", slices.Repeat(a.Elements, 17)...)},
		"no weight":          {2, api.ErrWeight, entry("c", elem(1, 0, 2))},
		"a weight below 0":   {2, api.ErrWeight, entry("c", elem(-1, 0, 2))},
		"a variable 0":       {2, api.ErrWeight, entry("c", varied(0, 0, 0))},
		"a twin":             {2, api.ErrTwin, entry("a")},
		"not normalised":     {2, api.ErrNormal, entry("\u00e9")},
		"without its prefix": {2, api.ErrPrefix, entry("ab\u0301")},
		"not above":          {2, api.ErrOrder, entry("\u0301", elem(0, 0x20, 2))},
		"not below":          {2, api.ErrVar, entry("-", varied(0x100, 0x20, 2))},
	} {
		wantMakeErr(t, what, norms.Small(), source(a, b, x.last), x.place, x.e)
		if x.e != api.ErrTwin {
			wantMakeErr(t, what+", in front", norms.Small(), source(x.last, a, b), 0, x.e)
		}
	}
	s := source(a)
	s.Ranges = []api.Implicit{{From: 2, To: 1, Base: 0xfb40}}
	wantMakeErr(t, "a twisted range", norms.Small(), s, 0, api.ErrImpl)
	s.Ranges = slices.Repeat(s.Ranges, 101)
	wantMakeErr(t, "many ranges", norms.Small(), s, 0, api.ErrLong)
	for _, v := range []string{"", "a b", "\u00e9", strings.Repeat("v", 33), strings.Repeat("v", api.MaxField+1)} {
		s.Version = v
		wantMakeErr(t, "no version", norms.Small(), s, 0, api.ErrVersion)
	}
	many := greatest()
	many.Entries = append(many.Entries, a)
	wantMakeErr(t, "many entries", norms.Small(), many, 0, api.ErrLong)
	wantMakeErr(t, "nothing", norms.Small(), api.Source{}, 0, api.ErrVersion)
	// It hangs on the data what is normalised, and what is a mark.
	for _, x := range []api.Entry{entry("\u00e9"), entry("ab\u0301")} {
		made(t, build(t, nil, nil), source(a, b, x))
	}
}

// P12.2

func TestCheck(t *testing.T) {
	want(t, "Check", pack.Check(small(t)), api.OK)
	want(t, "Check of the least", pack.Check(load(t, made(t, build(t, nil, nil), api.Source{Version: "1"}))), api.OK)
	for _, x := range notMade() {
		want(t, "Check of what Load did not make", pack.Check(x), api.ErrTable)
	}
	x, _ := pack.Load(nil)
	want(t, "Check of what was refused", pack.Check(x), api.ErrTable)
}

// P12.3

func TestWhatATableTells(t *testing.T) {
	s := valid.Small()
	s.Version = "~1!"
	b := made(t, norms.Small(), s)
	x := load(t, b)
	want(t, "Version", x.Version(), "~1!")
	wantSource(t, "Source", x.Source(), s)
	if !slices.Equal(x.Ranges(), weight.Unified()) {
		t.Errorf("Ranges: %v", x.Ranges())
	}
	wantBytes(t, "Bytes", x.Bytes(), b)
	want(t, "Id", x.Id(), int(sumOf(b)))
	want(t, "Norms", x.Norms() != nil && x.Norms() == x.Norms(), true)
	want(t, "Class", x.Norms().Class(0x301), 230)
	want(t, "how many decompositions", len(slices.Collect(x.Norms().Decomps())), 46)
	least := load(t, made(t, build(t, nil, nil), api.Source{Version: "1"}))
	want(t, "Version of the least", least.Version(), "1")
	want(t, "lists of the least", len(least.Ranges())+len(least.Source().Ranges)+len(least.Source().Entries), 0)
	want(t, "Norms of the least", least.Norms() != nil && least.Norms() != x.Norms(), true)
	want(t, "Class without data", least.Norms().Class(0x301), 0)
	want(t, "Norms of the same bytes", load(t, b).Norms() != x.Norms(), true)
}

func TestId(t *testing.T) {
	for _, s := range []string{"", "a", "123456789", "\x00", strings.Repeat("\xff", 100_000)} {
		want(t, "Id of any bytes", pack.Id([]byte(s)), int(sumOf([]byte(s))))
	}
	want(t, "Id", pack.Id([]byte("123456789")), 0xE3069283)
	want(t, "Id of nil", pack.Id(nil), 0)
	for _, b := range [][]byte{made(t, norms.Small(), valid.Small()), made(t, build(t, nil, nil), api.Source{Version: "1"}), made(t, norms.Small(), greatest())} {
		x := load(t, b)
		want(t, "a table's Id", x.Id(), int(sumOf(b)))
		want(t, "a table's Id", x.Id(), pack.Id(x.Bytes()))
	}
}

func TestSame(t *testing.T) {
	s := valid.Small()
	slices.Reverse(s.Entries)
	version := valid.Small()
	version.Version = "small-2"
	data := build(t, []api.Class{{From: 0x300, To: 0x345, Class: 230}}, nil)
	l := []func() *pack.Table{
		func() *pack.Table { return small(t) },
		func() *pack.Table { return load(t, made(t, norms.Small(), s)) },
		func() *pack.Table { return load(t, made(t, norms.Small(), version)) },
		func() *pack.Table { return load(t, made(t, data, valid.Small())) },
		func() *pack.Table { return load(t, made(t, norms.Small(), source())) },
	}
	for i, one := range l {
		for j, two := range l {
			a, b := one(), two()
			want(t, "Same", a.Same(b), i == j)
			a.Trie()
			want(t, "Same behind Trie", a.Same(b), i == j)
		}
		a := one()
		want(t, "Same as itself", a.Same(a), true)
		for _, none := range notMade() {
			want(t, "Same as none", a.Same(none), false)
			want(t, "none Same", none.Same(a), false)
			want(t, "none Same as itself", none.Same(none), false)
			want(t, "none Same as nil", none.Same(nil), false)
			want(t, "none Same as another", none.Same(new(pack.Table)), false)
		}
	}
}

// P12.4

func TestTrieIsMadeOnce(t *testing.T) {
	x, other := small(t), small(t)
	want(t, "Made at first", x.Made(), 0)
	pack.Check(x)
	x.Version()
	x.Id()
	x.Norms().Decomp(0xe9)
	x.Ranges()
	x.Source()
	x.Bytes()
	x.Same(other)
	want(t, "Made, till Trie was called", x.Made(), 0)
	one := x.Trie()
	want(t, "Made", x.Made(), 1)
	for range 10 {
		want(t, "the same one", x.Trie() == one, true)
		want(t, "Made again", x.Made(), 1)
	}
	want(t, "another table's Made", other.Made(), 0)
	want(t, "another table's Trie", other.Trie() != one, true)
	want(t, "another table's Made", other.Made(), 1)
	want(t, "Made, behind another's", x.Made(), 1)
}

func TestTrieHasTheEntries(t *testing.T) {
	for _, s := range []api.Source{valid.Small(), greatest(), source(), source(entry("b", elem(2, 2, 2)), entry("a", elem(1, 1, 1)), entry("ab"))} {
		x := load(t, made(t, norms.Small(), s))
		found := x.Trie()
		w, _, _ := trie.New(s.Entries)
		want(t, "Len", found.Len(), w.Len())
		want(t, "Asked", found.Asked(), 0)
		order := []int{}
		for number, one := range found.Each() {
			order = append(order, number)
			if !sameEntry(one, s.Entries[number]) {
				t.Fatalf("entry %d: %v, want %v", number, one, s.Entries[number])
			}
		}
		want(t, "entries", len(order), len(s.Entries))
		for number := range w.Each() {
			want(t, "a number", order[0], number)
			order = order[1:]
		}
		found.Longest([]rune("a"))
		want(t, "Asked of the same one", x.Trie().Asked(), 1)
	}
}

func TestTrieOfMany(t *testing.T) {
	for range 50 {
		x := small(t)
		found := make([]*trie.Trie, 16)
		var all sync.WaitGroup
		for i := range found {
			all.Go(func() {
				if n := x.Made(); n != 0 && n != 1 {
					t.Errorf("Made: %d", n)
				}
				found[i] = x.Trie()
				if n := x.Made(); n != 1 {
					t.Errorf("Made behind Trie: %d", n)
				}
				if n, _ := x.Trie().Longest([]rune("\u03b1\u0301")); n != 2 || x.Id() != pack.Id(x.Bytes()) || len(x.Source().Entries) != 101 || !x.Same(x) {
					t.Errorf("Longest: %d", n)
				}
			})
		}
		all.Wait()
		want(t, "Made", x.Made(), 1)
		for _, one := range found {
			want(t, "the same one", one != nil && one == x.Trie(), true)
		}
	}
}

func TestWhatLoadDidNotMake(t *testing.T) {
	for _, x := range notMade() {
		for range 2 {
			want(t, "Version", x.Version(), "")
			want(t, "Id", x.Id(), 0)
			want(t, "Norms", x.Norms(), nil)
			want(t, "Trie", x.Trie(), nil)
			want(t, "Ranges", x.Ranges() == nil, true)
			wantSource(t, "Source", x.Source(), api.Source{})
			want(t, "Bytes", x.Bytes() == nil, true)
			want(t, "Made", x.Made(), 0)
			want(t, "Same", x.Same(small(t)), false)
		}
	}
}

// P2

func TestAnswersShareNothing(t *testing.T) {
	data, s := norms.Small(), valid.Small()
	b := made(t, data, s)
	was := slices.Clone(b)
	again := made(t, data, s)
	clear(again)
	clear(data)
	clobber(s)
	wantBytes(t, "what was made", b, was)
	x := load(t, b)
	clear(b)
	wantBytes(t, "what was loaded", x.Bytes(), was)
	for range 2 { // ahead of the trie, and behind it
		clear(x.Bytes())
		clobber(x.Source())
		clobber(api.Source{Ranges: x.Ranges()})
		two := x.Source()
		clobber(x.Source())
		wantSource(t, "another Source", two, valid.Small())
		wantBytes(t, "Bytes", x.Bytes(), was)
		wantSource(t, "Source", x.Source(), valid.Small())
		want(t, "Ranges", slices.Equal(x.Ranges(), weight.Unified()), true)
		want(t, "Version", x.Version(), "small-1")
		want(t, "Id", x.Id(), int(sumOf(was)))
		want(t, "Len", x.Trie().Len(), 101)
		want(t, "Class", x.Norms().Class(0x301), 230)
	}
	for number, one := range x.Trie().Each() {
		if !sameEntry(one, valid.Small().Entries[number]) {
			t.Errorf("entry %d: %v", number, one)
		}
	}
}

func TestListsAreTheirOwn(t *testing.T) {
	shared := slices.Repeat([]api.Element{elem(1, 0x20, 2)}, 9)
	codes := []rune("abcdefghijk")
	s := api.Source{Version: "1", Ranges: make([]api.Implicit, 0, 7), Entries: make([]api.Entry, 0, 7)}
	s.Ranges = append(s.Ranges, weight.Unified()[:3]...)
	s.Entries = append(s.Entries, api.Entry{Codes: codes[:2], Elements: shared[:3]}, api.Entry{Codes: codes[1:2], Elements: shared[1:3]}, api.Entry{Codes: codes[:7], Elements: shared[:0]})
	data := append(norms.Small(), 1, 2, 3)
	b := made(t, data[:len(data)-3], s)
	want(t, "room behind what was made", cap(b), len(b))
	x := load(t, append(b, 9, 9)[:len(b)])
	want(t, "what lies behind the codes", string(codes), "abcdefghijk")
	want(t, "what lies behind the ranges", s.Ranges[:7][5], api.Implicit{})
	want(t, "what lies behind the entries", s.Entries[:7][5].Codes == nil, true)
	wantBytes(t, "what lies behind the data", data[len(data)-3:], []byte{1, 2, 3})
	want(t, "room behind Bytes", cap(x.Bytes()), len(b))
	want(t, "room behind Ranges", cap(x.Ranges()), 3)
	for _, got := range []api.Source{x.Source(), small(t).Source()} {
		want(t, "room behind Ranges", cap(got.Ranges), len(got.Ranges))
		want(t, "room behind Entries", cap(got.Entries), len(got.Entries))
		for i, one := range got.Entries {
			want(t, "room behind Codes", cap(one.Codes), len(one.Codes))
			want(t, "room behind Elements", cap(one.Elements), len(one.Elements))
			for _, two := range got.Entries[i+1:] {
				if &one.Codes[0] == &two.Codes[0] || len(one.Elements) > 0 && len(two.Elements) > 0 && &one.Elements[0] == &two.Elements[0] {
					t.Fatalf("%v and %v share a list", one, two)
				}
			}
		}
	}
}
