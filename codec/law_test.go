package codec_test

import (
	"bytes"
	"encoding/binary"
	"math"
	"math/bits"
	"math/rand"
	"runtime"
	"testing"

	"lectern/api"
	"lectern/codec"
)

// someUint has any number of bits, so that each length of a varint comes.
func someUint(r *rand.Rand) uint64 { return r.Uint64() >> r.Intn(65) }

func someBytes(r *rand.Rand, most int) []byte {
	b := make([]byte, r.Intn(most+1))
	r.Read(b)
	return b
}

func someFields(r *rand.Rand) [][]byte {
	l := make([][]byte, r.Intn(6))
	for i := range l {
		l[i] = someBytes(r, 200)
	}
	return l
}

// edgyBytes are such as varints and lengths are made of.
func edgyBytes(r *rand.Rand) []byte {
	b := make([]byte, r.Intn(16))
	for i := range b {
		b[i] = []byte{0, 1, 2, 3, 0x40, 0x7f, 0x80, 0x81, 0xff, byte(r.Intn(256))}[r.Intn(10)]
	}
	return b
}

// P2.7, and P2.9's beginnings

// wantBack fails if b, which was written, is not read back by same, whatever follows, or if a beginning of it is not ErrShort.
func wantBack(t *testing.T, r *rand.Rand, b []byte, read func([]byte) (same bool, long int, e api.Errno)) {
	t.Helper()
	for _, tail := range [][]byte{nil, {0}, {0xff, 0xff}, someBytes(r, 20)} {
		same, long, e := read(append(bytes.Clone(b), tail...))
		if !same || long != len(b) || e != api.OK {
			t.Fatalf("% x, then % x: same %v, %d bytes, error %d", b, tail, same, long, e)
		}
	}
	for n := range b {
		if _, long, e := read(b[:n]); long != 0 || e != api.ErrShort {
			t.Fatalf("the first %d of % x: %d bytes, error %d", n, b, long, e)
		}
	}
}

func TestThereAndBack(t *testing.T) {
	r := rand.New(rand.NewSource(1))
	for range 2000 {
		n, wide, f, l := someUint(r), 1+r.Intn(8), someBytes(r, 300), someFields(r)
		wantBack(t, r, codec.Uint(n), func(b []byte) (bool, int, api.Errno) {
			got, long, e := codec.ReadUint(b)
			return got == n, long, e
		})
		wantBack(t, r, codec.Int(int(n)), func(b []byte) (bool, int, api.Errno) {
			got, long, e := codec.ReadInt(b)
			return got == int(n), long, e
		})
		small := n >> (64 - 8*wide)
		wantBack(t, r, must(t)(codec.Fixed(small, wide)), func(b []byte) (bool, int, api.Errno) {
			got, long, e := codec.ReadFixed(b, wide)
			return got == small, long, e
		})
		wantBack(t, r, must(t)(codec.Field(f)), func(b []byte) (bool, int, api.Errno) {
			got, long, e := codec.ReadField(b)
			return bytes.Equal(got, f), long, e
		})
		wantBack(t, r, must(t)(codec.Fields(l)), func(b []byte) (bool, int, api.Errno) {
			got, long, e := codec.ReadFields(b)
			return sameFields(got, l), long, e
		})
	}
}

// P2.8, P2.9

// uintOf is ReadUint by other means: the library's varints, which take longer forms too.
func uintOf(b []byte) (uint64, int, api.Errno) {
	last := 0
	for last < len(b) && last < 9 && b[last] >= 0x80 {
		last++
	}
	switch {
	case last >= len(b):
		return 0, 0, api.ErrShort
	case last == 9 && b[9] > 1 || last > 0 && b[last] == 0:
		return 0, 0, api.ErrVarint
	}
	n, long := binary.Uvarint(b)
	return n, long, api.OK
}

func fieldOf(b []byte) ([]byte, int, api.Errno) {
	n, at, e := uintOf(b)
	switch {
	case e != api.OK:
		return nil, 0, e
	case n > 1048576:
		return nil, 0, api.ErrLong
	case n > uint64(len(b)-at):
		return nil, 0, api.ErrShort
	}
	return b[at : at+int(n)], at + int(n), api.OK
}

func fieldsOf(b []byte) ([][]byte, int, api.Errno) {
	n, at, e := uintOf(b)
	if e == api.OK && n > 65536 {
		e = api.ErrLong
	}
	var out [][]byte
	for ; e == api.OK && n > 0; n-- {
		var f []byte
		var long int
		f, long, e = fieldOf(b[at:])
		out, at = append(out, f), at+long
	}
	if e != api.OK {
		return nil, 0, e
	}
	return out, at, api.OK
}

// wantAlike fails if two readings of b are not alike, or if what was read is written again as other bytes.
func wantAlike(t *testing.T, b []byte, same bool, long, wantLong int, e, want api.Errno, again []byte) {
	t.Helper()
	if !same || long != wantLong || e != want {
		t.Fatalf("% x: same %v, %d bytes, error %d; want %d bytes, error %d", b, same, long, e, wantLong, want)
	}
	if e == api.OK && !bytes.Equal(again, b[:long]) {
		t.Fatalf("% x is written again as % x", b[:long], again)
	}
}

// readAll reads b by every call, from its first byte.
func readAll(t *testing.T, b []byte) {
	t.Helper()
	n, nLong, e := uintOf(b)
	u, long, err := codec.ReadUint(b)
	wantAlike(t, b, u == n, long, nLong, err, e, codec.Uint(u))
	i, long, err := codec.ReadInt(b)
	wantAlike(t, b, i == int(n>>1)^-int(n&1), long, nLong, err, e, codec.Int(i))
	for wide := 1; wide <= 8; wide++ {
		readFixed(t, b, wide)
	}
	f, fLong, e := fieldOf(b)
	got, long, err := codec.ReadField(b)
	wantAlike(t, b, bytes.Equal(got, f), long, fLong, err, e, must(t)(codec.Field(got)))
	l, lLong, e := fieldsOf(b)
	list, long, err := codec.ReadFields(b)
	wantAlike(t, b, sameFields(list, l), long, lLong, err, e, must(t)(codec.Fields(list)))
	readEach(t, b)
}

func readFixed(t *testing.T, b []byte, wide int) {
	t.Helper()
	got, long, err := codec.ReadFixed(b, wide)
	if len(b) < wide {
		wantAlike(t, b, got == 0, long, 0, err, api.ErrShort, nil)
		return
	}
	var full [8]byte
	copy(full[:], b[:wide])
	wantAlike(t, b, got == binary.LittleEndian.Uint64(full[:]), long, wide, err, api.OK, must(t)(codec.Fixed(got, wide)))
}

// readEach goes over b field by field: with Each, and with ReadField's likeness.
func readEach(t *testing.T, b []byte) {
	t.Helper()
	r := codec.New(b)
	at, number := 0, 0
	for i, f := range r.Each() {
		want, long, e := fieldOf(b[at:])
		at += long
		if i != number || !bytes.Equal(f, want) || e != api.OK || r.At() != at {
			t.Fatalf("% x: field %d at %d: % x, at %d; want % x, at %d, error %d", b, number, i, f, r.At(), want, at, e)
		}
		number++
	}
	e := api.OK
	if at < len(b) {
		_, _, e = fieldOf(b[at:])
		if e == api.OK {
			t.Fatalf("% x: ends at %d, ahead of a field", b, at)
		}
	}
	wantAt(t, r, at, e, e)
}

func TestAnyBytes(t *testing.T) {
	readAll(t, nil)
	for a := range 256 {
		readAll(t, []byte{byte(a)})
		for b := range 256 {
			readAll(t, []byte{byte(a), byte(b)})
		}
	}
	r := rand.New(rand.NewSource(2))
	for range 50000 {
		readAll(t, someBytes(r, 30))
		readAll(t, edgyBytes(r))
	}
}

func TestLongBytesNearALimit(t *testing.T) {
	room := make([]byte, api.MaxField+10)
	for _, n := range []uint64{api.MaxField - 1, api.MaxField, api.MaxField + 1, api.MaxFields - 1, api.MaxFields, api.MaxFields + 1} {
		for _, behind := range []uint64{0, n - 1, n, n + 1} {
			behind = min(behind, uint64(len(room)))
			readAll(t, append(codec.Uint(n), room[:behind]...))
		}
	}
}

// A count that is no more than a claim must not take the room of all that it claims.
func TestClaimsTakeNoRoom(t *testing.T) {
	claim := codec.Uint(api.MaxFields)
	var ahead, behind runtime.MemStats
	runtime.ReadMemStats(&ahead)
	for range 100 {
		codec.ReadFields(claim)
	}
	runtime.ReadMemStats(&behind)
	if n := behind.TotalAlloc - ahead.TotalAlloc; n > 1<<20 {
		t.Errorf("%d bytes for a hundred lists of which nothing is there", n)
	}
}

func FuzzRead(f *testing.F) {
	for _, s := range []string{"", "00", "ac 02", "80 00", "ff ff ff ff ff ff ff ff ff 01", "02 01 61 00", "80 80 40", "81 80 04 00"} {
		f.Add(raw(f, s))
	}
	f.Fuzz(readAll)
}

// P2.10

func TestVarintsAreInOrder(t *testing.T) {
	r := rand.New(rand.NewSource(3))
	long := func(n uint64) int { return len(codec.Uint(n)) }
	for bit := range 64 {
		n := uint64(1) << bit
		if long(n-1) > long(n) || long(n) > long(n+1) {
			t.Error(n, "is longer than", n+1, "or shorter than", n-1)
		}
		want(t, "bytes for seven bits each", long(n), bit/7+1)
	}
	want(t, "the greatest", long(math.MaxUint64), 10)
	for range 20000 {
		a, b := someUint(r), someUint(r)
		if long(min(a, b)) > long(max(a, b)) {
			t.Fatal(a, b, long(a), long(b))
		}
		want(t, "bytes", long(a), max(1, (bits.Len64(a)+6)/7))
	}
}
