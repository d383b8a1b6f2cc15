package codec_test

import (
	"bytes"
	"encoding/hex"
	"math"
	"slices"
	"strings"
	"testing"

	"lectern/api"
	"lectern/codec"
)

// raw is the bytes that s names: "ac 02".
func raw(t testing.TB, s string) []byte {
	t.Helper()
	b, err := hex.DecodeString(strings.ReplaceAll(s, " ", ""))
	if err != nil {
		t.Fatal(err)
	}
	return b
}

func wantErr(t testing.TB, what string, got, want api.Errno) {
	t.Helper()
	if got != want {
		t.Errorf("%s: error %d, want %d", what, got, want)
	}
}

func wantBytes(t testing.TB, what string, got, want []byte) {
	t.Helper()
	if !bytes.Equal(got, want) {
		t.Errorf("%s: % x, want % x", what, got, want)
	}
}

func want[T comparable](t testing.TB, what string, got, want T) {
	t.Helper()
	if got != want {
		t.Errorf("%s: %v, want %v", what, got, want)
	}
}

// must is the bytes of a call that has to succeed.
func must(t testing.TB) func([]byte, api.Errno) []byte {
	return func(b []byte, e api.Errno) []byte {
		t.Helper()
		if e != api.OK {
			t.Fatalf("error %d", e)
		}
		return b
	}
}

// P2.1

// uints are numbers on both sides of each length, with their varints.
var uints = []struct {
	n    uint64
	wire string
}{
	{0, "00"}, {1, "01"}, {127, "7f"}, {128, "80 01"}, {255, "ff 01"}, {300, "ac 02"}, {1<<14 - 1, "ff 7f"}, {1 << 14, "80 80 01"},
	{1<<21 - 1, "ff ff 7f"}, {1 << 21, "80 80 80 01"}, {1<<28 - 1, "ff ff ff 7f"}, {1 << 28, "80 80 80 80 01"},
	{1<<35 - 1, "ff ff ff ff 7f"}, {1 << 35, "80 80 80 80 80 01"}, {1<<42 - 1, "ff ff ff ff ff 7f"}, {1 << 42, "80 80 80 80 80 80 01"},
	{1<<49 - 1, "ff ff ff ff ff ff 7f"}, {1 << 49, "80 80 80 80 80 80 80 01"},
	{1<<56 - 1, "ff ff ff ff ff ff ff 7f"}, {1 << 56, "80 80 80 80 80 80 80 80 01"},
	{math.MaxInt64, "ff ff ff ff ff ff ff ff 7f"}, {1 << 63, "80 80 80 80 80 80 80 80 80 01"},
	{math.MaxUint64, "ff ff ff ff ff ff ff ff ff 01"},
}

func TestUint(t *testing.T) {
	for _, c := range uints {
		b := codec.Uint(c.n)
		wantBytes(t, "Uint", b, raw(t, c.wire))
		want(t, "room behind the end", cap(b), len(b))
		for _, tail := range []string{"", "00", "ff", "80 80"} {
			n, long, e := codec.ReadUint(append(raw(t, c.wire), raw(t, tail)...))
			wantErr(t, c.wire, e, api.OK)
			want(t, c.wire, n, c.n)
			want(t, "its length", long, len(b))
		}
	}
}

func TestNoUint(t *testing.T) {
	for _, c := range []struct {
		wire string
		want api.Errno
	}{
		{"", api.ErrShort}, {"80", api.ErrShort}, {"ff", api.ErrShort}, {"80 80", api.ErrShort},
		{"80 80 80 80 80 80 80 80 80", api.ErrShort}, {"ff ff ff ff ff ff ff ff ff", api.ErrShort},
		{"80 00", api.ErrVarint}, {"ff 00", api.ErrVarint}, {"80 00 80", api.ErrVarint}, {"81 80 00", api.ErrVarint},
		{"80 80 80 80 80 80 80 80 80 00", api.ErrVarint}, {"ff ff ff ff ff ff ff ff 00", api.ErrVarint},
		{"80 80 80 80 80 80 80 80 80 02", api.ErrVarint}, {"ff ff ff ff ff ff ff ff ff 7f", api.ErrVarint},
		{"80 80 80 80 80 80 80 80 80 80", api.ErrVarint}, {"80 80 80 80 80 80 80 80 80 81", api.ErrVarint},
		{"80 80 80 80 80 80 80 80 80 81 00", api.ErrVarint}, {"ff ff ff ff ff ff ff ff ff ff 01", api.ErrVarint},
	} {
		n, long, e := codec.ReadUint(raw(t, c.wire))
		wantErr(t, "ReadUint "+c.wire, e, c.want)
		want(t, c.wire, n, 0)
		want(t, "its length", long, 0)
		i, long, e := codec.ReadInt(raw(t, c.wire))
		wantErr(t, "ReadInt "+c.wire, e, c.want)
		want(t, c.wire, i, 0)
		want(t, "its length", long, 0)
	}
	_, _, e := codec.ReadUint(nil)
	wantErr(t, "of nil", e, api.ErrShort)
}

// P2.2

func TestInt(t *testing.T) {
	for _, c := range []struct {
		n    int
		wire string
	}{
		{0, "00"}, {-1, "01"}, {1, "02"}, {-2, "03"}, {2, "04"}, {63, "7e"}, {-64, "7f"}, {64, "80 01"}, {-65, "81 01"},
		{150, "ac 02"}, {-151, "ad 02"}, {1<<62 - 1, "fe ff ff ff ff ff ff ff 7f"}, {-1 << 62, "ff ff ff ff ff ff ff ff 7f"},
		{1 << 62, "80 80 80 80 80 80 80 80 80 01"}, {-1<<62 - 1, "81 80 80 80 80 80 80 80 80 01"},
		{math.MaxInt, "fe ff ff ff ff ff ff ff ff 01"}, {math.MinInt, "ff ff ff ff ff ff ff ff ff 01"},
		{math.MinInt + 1, "fd ff ff ff ff ff ff ff ff 01"},
	} {
		wantBytes(t, "Int", codec.Int(c.n), raw(t, c.wire))
		n, long, e := codec.ReadInt(raw(t, c.wire+" 80"))
		wantErr(t, c.wire, e, api.OK)
		want(t, c.wire, n, c.n)
		want(t, "its length", long, len(raw(t, c.wire)))
	}
}

// P2.3

func TestFixed(t *testing.T) {
	for _, c := range []struct {
		n    uint64
		wide int
		wire string
	}{
		{0, 1, "00"}, {0, 8, "00 00 00 00 00 00 00 00"}, {255, 1, "ff"}, {255, 2, "ff 00"}, {258, 4, "02 01 00 00"}, {256, 2, "00 01"},
		{65535, 2, "ff ff"}, {65536, 3, "00 00 01"}, {1<<24 - 1, 3, "ff ff ff"}, {1<<32 - 1, 4, "ff ff ff ff"},
		{1<<40 - 1, 5, "ff ff ff ff ff"}, {1<<48 - 1, 6, "ff ff ff ff ff ff"}, {1<<56 - 1, 7, "ff ff ff ff ff ff ff"},
		{0x0102030405060708, 8, "08 07 06 05 04 03 02 01"}, {math.MaxUint64, 8, "ff ff ff ff ff ff ff ff"},
	} {
		b, e := codec.Fixed(c.n, c.wide)
		wantErr(t, c.wire, e, api.OK)
		wantBytes(t, "Fixed", b, raw(t, c.wire))
		n, long, e := codec.ReadFixed(raw(t, c.wire+" ff"), c.wide)
		wantErr(t, c.wire, e, api.OK)
		want(t, c.wire, n, c.n)
		want(t, "its length", long, c.wide)
	}
}

func TestNoFixed(t *testing.T) {
	for wide := 1; wide < 8; wide++ {
		for _, n := range []uint64{1 << (8 * wide), 1<<(8*wide) + 1, math.MaxUint64} {
			b, e := codec.Fixed(n, wide)
			wantErr(t, "a number that does not fit", e, api.ErrRange)
			want(t, "its bytes", len(b), 0)
		}
	}
	for _, wide := range []int{0, 9, -1, 16, math.MaxInt, math.MinInt, 1 << 32, 1<<32 + 1} {
		for _, n := range []uint64{0, 1, math.MaxUint64} {
			b, e := codec.Fixed(n, wide)
			wantErr(t, "Fixed so wide", e, api.ErrRange)
			want(t, "its bytes", len(b), 0)
		}
		for _, long := range []int{0, 4, 20} {
			n, used, e := codec.ReadFixed(make([]byte, long), wide)
			wantErr(t, "ReadFixed so wide", e, api.ErrRange)
			want(t, "its number", n, 0)
			want(t, "its length", used, 0)
		}
	}
	for wide := 1; wide <= 8; wide++ {
		for long := range wide {
			n, used, e := codec.ReadFixed(raw(t, "01 02 03 04 05 06 07 08")[:long], wide)
			wantErr(t, "too few bytes", e, api.ErrShort)
			want(t, "its number", n, 0)
			want(t, "its length", used, 0)
		}
	}
}

// P2.4

func TestField(t *testing.T) {
	for _, c := range []struct{ f, wire string }{
		{"", "00"}, {"61", "01 61"}, {"00", "01 00"}, {"61 62 63", "03 61 62 63"},
		{strings.Repeat("fe", 127), "7f" + strings.Repeat("fe", 127)}, {strings.Repeat("fe", 128), "80 01" + strings.Repeat("fe", 128)},
	} {
		b, e := codec.Field(raw(t, c.f))
		wantErr(t, c.wire, e, api.OK)
		wantBytes(t, "Field", b, raw(t, c.wire))
		f, long, e := codec.ReadField(raw(t, c.wire+" 61"))
		wantErr(t, c.wire, e, api.OK)
		wantBytes(t, "ReadField", f, raw(t, c.f))
		want(t, "its length", long, len(b))
	}
	wantBytes(t, "of nil", must(t)(codec.Field(nil)), []byte{0})
}

func TestLongestField(t *testing.T) {
	long := bytes.Repeat([]byte{7}, api.MaxField+1)
	b, e := codec.Field(long)
	wantErr(t, "above MaxField", e, api.ErrLong)
	want(t, "its bytes", len(b), 0)
	b, e = codec.Field(long[:api.MaxField])
	wantErr(t, "MaxField", e, api.OK)
	if !bytes.Equal(b, append(raw(t, "80 80 40"), long[:api.MaxField]...)) {
		t.Error("MaxField: other bytes")
	}
	f, n, e := codec.ReadField(b)
	wantErr(t, "MaxField", e, api.OK)
	want(t, "its length", n, api.MaxField+3)
	if !bytes.Equal(f, long[:api.MaxField]) {
		t.Error("MaxField: another field")
	}
	f, n, e = codec.ReadField(append(codec.Uint(api.MaxField+1), long...))
	wantErr(t, "read above MaxField", e, api.ErrLong)
	want(t, "its length", n+len(f), 0)
}

func TestNoField(t *testing.T) {
	for _, c := range []struct {
		wire string
		want api.Errno
	}{
		{"", api.ErrShort}, {"80", api.ErrShort}, {"01", api.ErrShort}, {"03 61 62", api.ErrShort}, {"80 01 61", api.ErrShort},
		{"80 80 40", api.ErrShort}, {"80 00", api.ErrVarint}, {"81 00 61", api.ErrVarint}, {"80 80 80 80 80 80 80 80 80 02", api.ErrVarint},
		{"81 80 40", api.ErrLong}, {"ff ff 7f", api.ErrLong}, {"ff ff ff ff ff ff ff ff 7f", api.ErrLong},
		{"80 80 80 80 80 80 80 80 80 01", api.ErrLong}, {"ff ff ff ff ff ff ff ff ff 01 61", api.ErrLong},
	} {
		f, long, e := codec.ReadField(raw(t, c.wire))
		wantErr(t, "ReadField "+c.wire, e, c.want)
		want(t, "its length", long+len(f), 0)
	}
}

// P2.5

// words is a list of fields from texts.
func words(l ...string) [][]byte {
	var out [][]byte
	for _, s := range l {
		out = append(out, []byte(s))
	}
	return out
}

func sameFields(a, b [][]byte) bool { return slices.EqualFunc(a, b, bytes.Equal) }

func TestFields(t *testing.T) {
	many := make([]string, 200)
	for _, c := range []struct {
		l    [][]byte
		wire string
	}{
		{nil, "00"}, {words(), "00"}, {words(""), "01 00"}, {[][]byte{nil}, "01 00"}, {words("a", ""), "02 01 61 00"},
		{words("", "", "abc"), "03 00 00 03 61 62 63"}, {words(many...), "c8 01" + strings.Repeat("00", 200)},
		{words("a", strings.Repeat("b", 128)), "02 01 61 80 01" + strings.Repeat("62", 128)},
	} {
		b, e := codec.Fields(c.l)
		wantErr(t, c.wire, e, api.OK)
		wantBytes(t, "Fields", b, raw(t, c.wire))
		l, long, e := codec.ReadFields(raw(t, c.wire+" 01 61"))
		wantErr(t, c.wire, e, api.OK)
		want(t, "its length", long, len(b))
		if !sameFields(l, c.l) {
			t.Errorf("ReadFields %s: %x, want %x", c.wire, l, c.l)
		}
	}
}

func TestMostFields(t *testing.T) {
	l := make([][]byte, api.MaxFields+1)
	b, e := codec.Fields(l)
	wantErr(t, "above MaxFields", e, api.ErrLong)
	want(t, "its bytes", len(b), 0)
	b, e = codec.Fields(l[:api.MaxFields])
	wantErr(t, "MaxFields", e, api.OK)
	if !bytes.Equal(b, append(raw(t, "80 80 04"), make([]byte, api.MaxFields)...)) {
		t.Error("MaxFields: other bytes")
	}
	got, long, e := codec.ReadFields(b)
	wantErr(t, "MaxFields", e, api.OK)
	want(t, "its length", long, api.MaxFields+3)
	want(t, "how many", len(got), api.MaxFields)
	got, long, e = codec.ReadFields(append(codec.Uint(api.MaxFields+1), make([]byte, api.MaxFields+1)...))
	wantErr(t, "read above MaxFields", e, api.ErrLong)
	want(t, "its length", long+len(got), 0)
}

func TestFieldsOfLongFields(t *testing.T) {
	long := make([]byte, api.MaxField+1)
	for _, l := range [][][]byte{{long}, {nil, long}, {long, nil}, {nil, long, long[1:]}} {
		b, e := codec.Fields(l)
		wantErr(t, "one too long", e, api.ErrLong)
		want(t, "its bytes", len(b), 0)
	}
	b, e := codec.Fields([][]byte{long[1:], nil, long[1:]})
	wantErr(t, "none too long", e, api.OK)
	want(t, "its bytes", len(b), 1+2*(api.MaxField+3)+1)
	l, n, e := codec.ReadFields(b)
	wantErr(t, "read none too long", e, api.OK)
	want(t, "its length", n, len(b))
	if !sameFields(l, [][]byte{long[1:], nil, long[1:]}) {
		t.Error("other fields")
	}
}

func TestNoFields(t *testing.T) {
	for _, c := range []struct {
		wire string
		want api.Errno
	}{
		{"", api.ErrShort}, {"80", api.ErrShort}, {"01", api.ErrShort}, {"02 01 61", api.ErrShort}, {"02 01 61 02 62", api.ErrShort},
		{"80 80 04", api.ErrShort}, {"80 80 04 00", api.ErrShort}, {"02 00 80", api.ErrShort},
		{"80 00", api.ErrVarint}, {"02 01 61 80 00", api.ErrVarint}, {"02 80 00 81 80 40", api.ErrVarint},
		{"81 80 04", api.ErrLong}, {"81 80 04 80 00", api.ErrLong}, {"ff ff ff ff ff ff ff ff ff 01", api.ErrLong},
		{"80 80 80 80 80 80 80 80 80 01", api.ErrLong}, {"01 81 80 40", api.ErrLong}, {"02 01 61 81 80 40 80 00", api.ErrLong},
		{"02 81 80 40 80 00", api.ErrLong},
	} {
		l, long, e := codec.ReadFields(raw(t, c.wire))
		wantErr(t, "ReadFields "+c.wire, e, c.want)
		want(t, "its length", long+len(l), 0)
	}
}

// P2 of the whole: nothing is shared, nothing behind an end is read, written or handed out.

func TestWritersShareNothing(t *testing.T) {
	room := []byte("abXY")
	l := append(make([][]byte, 0, 4), room[:2], room[:2])
	l[:3][2] = []byte("Z")
	field, fields := must(t)(codec.Field(room[:2])), must(t)(codec.Fields(l))
	wantBytes(t, "Field", field, []byte("\x02ab"))
	wantBytes(t, "Fields", fields, []byte("\x02\x02ab\x02ab"))
	for _, b := range [][]byte{field, fields, codec.Uint(300), codec.Int(300), must(t)(codec.Fixed(300, 2))} {
		want(t, "room behind the end", cap(b), len(b))
		clear(b)
	}
	wantBytes(t, "what was given", room, []byte("abXY"))
	wantBytes(t, "behind the list", l[:3][2], []byte("Z"))
	wantBytes(t, "Uint again", codec.Uint(300), raw(t, "ac 02"))
}

func TestReadersShareNothing(t *testing.T) {
	wire := []byte("\x02\x02ab\x01cZZ")
	given := wire[:6:7]
	f, _, _ := codec.ReadField(given[1:])
	l, _, _ := codec.ReadFields(given)
	r := codec.New(given)
	taken := r.Take(4)
	field := r.Field()
	want(t, "room behind the list", cap(l), len(l))
	for _, b := range [][]byte{f, l[0], l[1], taken, field} {
		want(t, "room behind the end", cap(b), len(b))
	}
	clear(f)
	clear(l[0])
	clear(taken)
	clear(field)
	wantBytes(t, "the other field", l[1], []byte("c"))
	wantBytes(t, "what was given", wire, []byte("\x02\x02ab\x01cZZ"))
	_, _, e := codec.ReadField(wire[4:5])
	wantErr(t, "behind the end", e, api.ErrShort)
	_, _, e = codec.ReadUint([]byte{0x80, 1}[:1])
	wantErr(t, "behind the end", e, api.ErrShort)
	_, _, e = codec.ReadFixed(wire[:1], 2)
	wantErr(t, "behind the end", e, api.ErrShort)
}
