package pack_test

import (
	"cmp"
	"encoding/binary"
	"math"
	"runtime"
	"slices"
	"strconv"
	"strings"
	"testing"

	"lectern/api"
	"lectern/norms"
	"lectern/pack"
	"lectern/valid"
)

// part is a piece of a table's payload: a number, or bytes.
type part struct {
	isNumber bool
	n        uint64
	raw      []byte
}

func number[T int | rune](n T) part { return part{isNumber: true, n: uint64(n)} }

func field(s []byte) []part { return []part{number(len(s)), {raw: s}} }

func flagged(is bool) part {
	if is {
		return number(1)
	}
	return number(0)
}

// partsOf are the parts of any data and source, also of such as may not be: Make by other means.
func partsOf(data []byte, s api.Source) []part {
	out := slices.Concat([]part{{raw: []byte("UCT1")}}, field(data), field([]byte(s.Version)), []part{number(len(s.Ranges))})
	for _, x := range s.Ranges {
		out = append(out, number(x.From), number(x.To), number(x.Base), flagged(x.Whole))
	}
	out = append(out, number(len(s.Entries)))
	for _, x := range s.Entries {
		out = append(out, number(len(x.Codes)))
		for _, r := range x.Codes {
			out = append(out, number(r))
		}
		out = append(out, number(len(x.Elements)))
		for _, e := range x.Elements {
			out = append(out, number(e.P), number(e.S), number(e.T), flagged(e.Var))
		}
	}
	return out
}

func join(l []part) []byte {
	var out []byte
	for _, x := range l {
		if x.isNumber {
			out = binary.AppendUvarint(out, x.n)
		} else {
			out = append(out, x.raw...)
		}
	}
	return out
}

// instead are the bytes of l with others for part i.
func instead(l []part, i int, b []byte) []byte {
	return slices.Concat(join(l[:i]), b, join(l[i+1:]))
}

func wantRefused(t testing.TB, what string, b []byte, err api.Errno) {
	t.Helper()
	was := slices.Clone(b)
	x, e := pack.Load(b)
	if x != nil || e != err {
		t.Errorf("Load of %s: table %t, error %d; want error %d", what, x != nil, e, err)
	}
	wantBytes(t, "what was given", b, was)
}

// shortSource has two of everything, so that each number of it can be changed.
func shortSource() api.Source {
	return api.Source{
		Version: "v1",
		Ranges:  []api.Implicit{{From: 0x3400, To: 0x4db5, Base: 0xfb80}, {From: 0x17000, To: 0x187ec, Base: 0xfb00, Whole: true}},
		Entries: []api.Entry{entry("ab", elem(0x510, 0x20, 2), elem(0, 0x24, 2)), entry("-", varied(0x201, 0x20, 2)), entry("\u0301")},
	}
}

func TestLoad(t *testing.T) {
	for what, s := range map[string]api.Source{"small": valid.Small(), "short": shortSource(), "nothing": {Version: "1"}, "the greatest": greatest()} {
		for _, data := range [][]byte{norms.Small(), build(t, nil, nil)} {
			b := frameOf(join(partsOf(data, s)))
			x := load(t, b)
			wantSource(t, what, x.Source(), s)
			wantBytes(t, what, x.Bytes(), b)
			wantBytes(t, what+", of bytes with others behind", load(t, append(b, 7, 7)[:len(b)]).Bytes(), b)
		}
	}
}

func TestNoFrame(t *testing.T) {
	b := made(t, norms.Small(), valid.Small())
	wantRefused(t, "nil", nil, api.ErrPack)
	wantRefused(t, "nothing", []byte{}, api.ErrPack)
	wantRefused(t, "a byte behind it", append(slices.Clone(b), 0), api.ErrPack)
	wantRefused(t, "it twice", append(slices.Clone(b), b...), api.ErrPack)
	wantRefused(t, "a byte ahead of it", append([]byte{0}, b...), api.ErrPack)
	wantRefused(t, "without its frame", payloadOf(b), api.ErrPack)
	wantRefused(t, "a frame within another", frameOf(b), api.ErrPack)
	wantRefused(t, "its data", norms.Small(), api.ErrPack)
	for long := range len(b) {
		wantRefused(t, "a beginning", b[:long], api.ErrPack)
	}
	wrong := slices.Clone(b)
	wrong[3]++
	wantRefused(t, "another sum", wrong, api.ErrPack)
	long := slices.Concat([]byte{b[0], b[1] | 0x80, 0}, b[2:])
	wantRefused(t, "a length in a longer form", long, api.ErrPack)
	wantRefused(t, "more than a frame may have", slices.Concat(binary.AppendUvarint(nil, api.MaxFrame+1), make([]byte, api.MaxFrame+5)), api.ErrPack)
	wantRefused(t, "no payload", frameOf(nil), api.ErrPack)
}

func TestNoMark(t *testing.T) {
	payload := payloadOf(made(t, norms.Small(), valid.Small()))
	for _, mark := range []string{"", "U", "UCT", "UCT2", "uct1", "NRM1", "UCT11", " UCT1", "\x00\x00\x00\x00"} {
		wantRefused(t, "mark "+mark, frameOf(append([]byte(mark), payload[4:]...)), api.ErrPack)
	}
	for i := range 4 {
		other := slices.Clone(payload)
		other[i] ^= 0x20
		wantRefused(t, "another mark", frameOf(other), api.ErrPack)
	}
	wantRefused(t, "a mark alone", frameOf([]byte("UCT1")), api.ErrPack)
}

func TestTooFewAndTooMany(t *testing.T) {
	payload := join(partsOf(build(t, nil, nil), shortSource()))
	for long := range len(payload) {
		wantRefused(t, "a beginning of the payload", frameOf(payload[:long]), api.ErrPack)
	}
	for _, more := range []string{"\x00", "\x01", "\xff", string(payload)} {
		wantRefused(t, "bytes that are left", frameOf(append(slices.Clone(payload), more...)), api.ErrPack)
	}
}

// Wherever a number stands it has one form, is no more than 2^31 - 1, and is the one that is there.
func TestNumbers(t *testing.T) {
	l := partsOf(build(t, nil, nil), shortSource())
	numbers := 0
	for i, x := range l {
		if !x.isNumber {
			continue
		}
		numbers++
		what := "with part " + strconv.Itoa(i)
		short := binary.AppendUvarint(nil, x.n)
		long := append(slices.Clone(short), 0)
		long[len(short)-1] |= 0x80
		wantRefused(t, what+" in a longer form", frameOf(instead(l, i, long)), api.ErrPack)
		long[len(short)] = 0x80
		wantRefused(t, what+" in a still longer form", frameOf(instead(l, i, append(long, 0))), api.ErrPack)
		for _, n := range []uint64{1 << 31, 1<<31 + x.n, 1<<32 + x.n, 1 << 63, math.MaxUint64} {
			wantRefused(t, what+" too great", frameOf(instead(l, i, binary.AppendUvarint(nil, n))), api.ErrPack)
		}
		for _, none := range []string{strings.Repeat("\x80", 9) + "\x02", strings.Repeat("\xff", 10), strings.Repeat("\x80", 10) + "\x01"} {
			wantRefused(t, what+" none", frameOf(instead(l, i, []byte(none))), api.ErrPack)
		}
		for _, payload := range [][]byte{instead(l, i, nil), instead(l, i, binary.AppendUvarint(nil, math.MaxInt32))} {
			if e := hold(t, payload); e == api.OK {
				t.Errorf("%s away, or the greatest number, is loaded", what)
			}
		}
	}
	want(t, "numbers", numbers, 2+1+2*4+1+3*2+4+3*4)
}

// In each place where the greatest number may stand it is not ErrPack that refuses it.
func TestGreatestNumber(t *testing.T) {
	n := part{isNumber: true, n: math.MaxInt32}
	l := partsOf(build(t, nil, nil), shortSource())
	at := map[api.Errno]int{}
	for i, x := range l {
		if x.isNumber {
			payload := join(slices.Concat(l[:i], []part{n}, l[i+1:]))
			_, e := pack.Load(frameOf(payload))
			at[e]++
		}
	}
	// Codes, and From, To, Base, and P, S, T; all others count, or are a 0 or 1.
	want(t, "codes that are none", at[api.ErrSeq], 4)
	want(t, "ranges that are none", at[api.ErrImpl], 6)
	want(t, "weights that are none", at[api.ErrWeight], 9)
	want(t, "no table's bytes", at[api.ErrPack], 2+1+1+3*2+2+3)
	want(t, "places", at[api.OK], 0)
}

func TestFlags(t *testing.T) {
	s := shortSource()
	l := partsOf(build(t, nil, nil), s)
	seen := 0
	for i, x := range l {
		if !x.isNumber || x.n > 1 || !isFlag(l, s, i) {
			continue
		}
		seen++
		for _, n := range []uint64{2, 3, 127, 128, 256, 257, math.MaxInt32} {
			wantRefused(t, "a flag", frameOf(instead(l, i, binary.AppendUvarint(nil, n))), api.ErrPack)
		}
		_, e := pack.Load(frameOf(instead(l, i, []byte{1 - byte(x.n)})))
		want(t, "the other flag is no other form", e != api.ErrPack, true)
	}
	want(t, "flags", seen, 5)
}

// isFlag tells whether part i is a flag: with another there it stands for another source, or for none that may be.
func isFlag(l []part, s api.Source, i int) bool {
	other := cloned(s)
	flags := []*bool{&other.Ranges[0].Whole, &other.Ranges[1].Whole, &other.Entries[0].Elements[0].Var, &other.Entries[0].Elements[1].Var, &other.Entries[1].Elements[0].Var}
	for _, flag := range flags {
		*flag = !*flag
		if partsOf(l[2].raw, other)[i].n != l[i].n {
			return true
		}
		*flag = !*flag
	}
	return false
}

// Fields are codec's: none has more than MaxField bytes.
func TestFields(t *testing.T) {
	l := partsOf(build(t, nil, nil), shortSource())
	for _, i := range []int{1, 3} {
		for _, long := range []int{api.MaxField + 1, api.MaxField + 1000} {
			payload := slices.Concat(join(l[:i]), join(field(make([]byte, long))), join(l[i+2:]))
			wantRefused(t, "a field that is too long", frameOf(payload), api.ErrPack)
		}
		payload := slices.Concat(join(l[:i]), join(field(make([]byte, api.MaxField))), join(l[i+2:]))
		wantRefused(t, "the longest field", frameOf(payload), map[int]api.Errno{1: api.ErrNorms, 3: api.ErrVersion}[i])
	}
}

// What is no table's bytes goes ahead of what its data may not be, and that of what its source may not be.
func TestWhichErrorComesFirst(t *testing.T) {
	noEntry := shortSource()
	noEntry.Entries[1].Codes = nil
	noVersion := shortSource()
	noVersion.Version = ""
	noOrder := shortSource()
	noOrder.Entries = append(noOrder.Entries, entry("\u0302", elem(0, 0x20, 2)))
	many := greatest()
	many.Entries = append(many.Entries, entry("a"))
	noRange := shortSource()
	noRange.Ranges[0].From = 0x4db6
	for _, d := range []struct {
		data []byte
		e    api.Errno
	}{
		{norms.Small(), api.OK},
		{nil, api.ErrNorms},
		{append(norms.Small(), 0), api.ErrNorms},
		{frameOf([]byte("NRM1\x01\x05\x04\x01\x00")), api.ErrClass},
		{frameOf([]byte("NRM1\x00\x01\x05\x05\x00")), api.ErrDecomp},
		{frameOf(append([]byte("NRM1\x00\xc1\x3e"), make([]byte, 3*8001)...)), api.ErrLong},
	} {
		for _, x := range []struct {
			s api.Source
			e api.Errno
		}{
			{shortSource(), api.OK}, {noEntry, api.ErrSeq}, {noVersion, api.ErrVersion}, {noOrder, api.ErrOrder}, {many, api.ErrLong}, {noRange, api.ErrImpl},
			{source(entry("\u00e9")), api.ErrNormal}, {source(entry("ab\u0301")), api.ErrPrefix}, {source(entry("a"), entry("a")), api.ErrTwin},
			{source(entry("-", varied(1, 0x20, 2), elem(2, 0x20, 2))), api.ErrVar}, {source(entry("a", elem(1, 0, 0))), api.ErrWeight},
		} {
			payload := join(partsOf(d.data, x.s))
			if e := cmp.Or(d.e, x.e); e != api.OK {
				wantRefused(t, "data and a source", frameOf(payload), e)
			} else {
				load(t, frameOf(payload))
			}
			wantRefused(t, "bytes that are left", frameOf(append(payload, 0)), api.ErrPack)
			wantRefused(t, "too few", frameOf(payload[:len(payload)-1]), api.ErrPack)
			wantRefused(t, "a byte behind it", append(frameOf(payload), 0), api.ErrPack)
		}
	}
}

// As many as are one too many are still counted, and told by the checks as they are.
func TestMoreThanMayBe(t *testing.T) {
	for _, more := range []int{1, 2, 3, 1000} {
		s := shortSource()
		s.Ranges = slices.Repeat(s.Ranges[:1], api.MaxRanges+more)
		wantRefused(t, "ranges", frameOf(join(partsOf(norms.Small(), s))), api.ErrLong)
		s = shortSource()
		s.Entries = append(s.Entries, entry(strings.Repeat("a", api.MaxSeq+more), elem(1, 0, 0)))
		wantRefused(t, "code points", frameOf(join(partsOf(norms.Small(), s))), api.ErrSeq)
		s = shortSource()
		s.Entries = append(s.Entries, entry("a", slices.Repeat([]api.Element{elem(1, 0, 0)}, api.MaxElements+more)...), entry(""))
		wantRefused(t, "elements", frameOf(join(partsOf(norms.Small(), s))), api.ErrLong)
		s = greatest()
		s.Entries = append(s.Entries, slices.Repeat([]api.Entry{entry("")}, more)...)
		wantRefused(t, "entries", frameOf(join(partsOf(norms.Small(), s))), api.ErrLong)
		// What is behind those that count has to be there, too.
		payload := join(partsOf(norms.Small(), s))
		wantRefused(t, "entries, of which one lacks", frameOf(payload[:len(payload)-2]), api.ErrPack)
	}
}

// A count alone takes no room. Of too many entries few are kept: all would take a gigabyte, on the way.
func TestWhatIsRefusedTakesLittleRoom(t *testing.T) {
	head := slices.Concat([]byte("UCT1"), join(field(norms.Small())), join(field([]byte("1"))))
	none := frameOf(slices.Concat(head, join([]part{number(math.MaxInt32)})))
	entries := (api.MaxFrame - 1000) / 2
	many := frameOf(slices.Concat(head, join([]part{number(0), number(entries)}), make([]byte, 2*entries)))
	for _, x := range []struct {
		b    []byte
		most uint64
		e    api.Errno
	}{{none, 1 << 20, api.ErrPack}, {many, 400 << 20, api.ErrLong}} {
		var ahead, behind runtime.MemStats
		runtime.ReadMemStats(&ahead)
		_, e := pack.Load(x.b)
		runtime.ReadMemStats(&behind)
		want(t, "error", e, x.e)
		if took := behind.TotalAlloc - ahead.TotalAlloc; took > x.most {
			t.Errorf("%d bytes took %d", len(x.b), took)
		}
	}
}
