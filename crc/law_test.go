package crc_test

import (
	"bytes"
	"encoding/binary"
	"math/bits"
	"math/rand"
	"testing"

	"lectern/api"
	"lectern/crc"
)

// P3.8

func TestThereAndBack(t *testing.T) {
	r := rand.New(rand.NewSource(5))
	table := crc.New()
	for range 3000 {
		payload := someBytes(r, 300)
		f := frame(t, payload)
		for _, tail := range [][]byte{nil, {0}, {0xff, 0xff}, f, someBytes(r, 20)} {
			got, long, e := table.Unframe(append(bytes.Clone(f), tail...))
			if !bytes.Equal(got, payload) || long != len(f) || e != api.OK {
				t.Fatalf("% x, then % x: % x, %d bytes, error %d", f, tail, got, long, e)
			}
		}
	}
}

// wantOther fails if the frame of payload tells payload with one of its bits turned; tail lies behind it.
func wantOther(t *testing.T, table *crc.Table, payload, tail []byte) {
	t.Helper()
	f := frame(t, payload)
	b := append(bytes.Clone(f), tail...)
	for bit := range 8 * len(f) {
		b[bit/8] ^= 1 << (bit % 8)
		got, long, e := table.Unframe(b)
		if e == api.OK && bytes.Equal(got, payload) || e != api.OK && len(got)+long > 0 {
			t.Fatalf("% x with bit %d turned: % x, %d bytes, error %d", f, bit, got, long, e)
		}
		b[bit/8] ^= 1 << (bit % 8)
	}
}

func TestOneBitOfAFrame(t *testing.T) {
	r := rand.New(rand.NewSource(6))
	table := crc.New()
	for range 300 {
		payload := someBytes(r, 40)
		for _, tail := range [][]byte{nil, make([]byte, 200), someBytes(r, 200), frame(t, payload)} {
			wantOther(t, table, payload, tail)
		}
	}
	for _, n := range []int{0, 1, 127, 128, 129, 500} {
		wantOther(t, table, make([]byte, n), make([]byte, 2*n))
	}
}

// P3.9

// turn turns the bits of b that pattern names, the first of them at bit. A byte's bits follow one another from the least on, as they are
// summed.
func turn(b []byte, bit int, pattern uint32) {
	for ; pattern != 0; pattern >>= 1 {
		b[bit/8] ^= byte(pattern&1) << (bit % 8)
		bit++
	}
}

// wantSumsDiffer fails if a and what it is with these bits turned have one sum.
func wantSumsDiffer(t *testing.T, table *crc.Table, a []byte, bit int, pattern uint32) {
	t.Helper()
	b := bytes.Clone(a)
	turn(b, bit, pattern)
	if table.Sum(a) == table.Sum(b) {
		t.Fatalf("% x and % x have one sum", a, b)
	}
}

func TestBitsThatFollowOneAnother(t *testing.T) {
	r := rand.New(rand.NewSource(7))
	table := crc.New()
	for n := 1; n <= 40; n++ {
		a := make([]byte, n)
		r.Read(a)
		for bit := range 8 * n {
			for wide := 1; wide <= min(32, 8*n-bit); wide++ {
				ends := 1 | uint32(1)<<(wide-1)
				wantSumsDiffer(t, table, a, bit, ends)
				wantSumsDiffer(t, table, a, bit, ends|r.Uint32()>>(32-wide))
				wantSumsDiffer(t, table, a, bit, uint32(1)<<wide-1)
			}
		}
	}
}

func TestAllShortListsDiffer(t *testing.T) {
	table := crc.New()
	seen := map[uint32]bool{}
	for n := range 1 << 16 {
		seen[table.Sum([]byte{byte(n), byte(n >> 8)})] = true
	}
	wantInt(t, "sums of two bytes", len(seen), 1<<16)
}

// The sums of four bytes are all numbers, each once: no pattern of 32 bits is lost.
func TestFourBytesLoseNothing(t *testing.T) {
	table := crc.New()
	rows := make([]uint32, 32)
	zero := table.Sum(make([]byte, 4))
	for bit := range rows {
		b := make([]byte, 4)
		turn(b, bit, 1)
		rows[bit] = table.Sum(b) ^ zero
	}
	rank := 0
	for bit := range 32 {
		for i := rank; i < len(rows); i++ {
			if rows[i]>>bit&1 == 1 {
				rows[rank], rows[i] = rows[i], rows[rank]
				for j := range rows {
					if j != rank && rows[j]>>bit&1 == 1 {
						rows[j] ^= rows[rank]
					}
				}
				rank++
				break
			}
		}
	}
	wantInt(t, "bits that don't hang on one another", rank, 32)
}

// unframeOf is Unframe by other means: the library's varints, which take longer forms too, and its sums.
func unframeOf(b []byte) ([]byte, int, api.Errno) {
	n, at := binary.Uvarint(b)
	if at <= 0 || at != (bits.Len64(n|1)+6)/7 || n > 16777216 || len(b)-at < 4 {
		return nil, 0, api.ErrFrame
	}
	masked := binary.LittleEndian.Uint32(b[at:])
	at += 4
	if n > uint64(len(b)-at) {
		return nil, 0, api.ErrFrame
	}
	payload := b[at : at+int(n)]
	sum := sumOf(payload)
	if masked != (sum>>15|sum<<17)+0xA282EAD8 {
		return nil, 0, api.ErrSum
	}
	return payload, at + int(n), api.OK
}

// readAll holds Unframe and Each against unframeOf, on any bytes.
func readAll(t *testing.T, b []byte) {
	t.Helper()
	table := crc.New()
	got, long, e := table.Unframe(b)
	want, wantLong, err := unframeOf(b)
	if !bytes.Equal(got, want) || long != wantLong || e != err {
		t.Fatalf("% x: % x, %d bytes, error %d; want % x, %d bytes, error %d", b, got, long, e, want, wantLong, err)
	}
	at := 0
	for place, payload := range table.Each(b) {
		want, long, e := unframeOf(b[at:])
		if place != at || !bytes.Equal(payload, want) || e != api.OK {
			t.Fatalf("% x: told % x at %d; want % x at %d, error %d", b, payload, place, want, at, e)
		}
		at += long
	}
	if _, _, e := unframeOf(b[at:]); e == api.OK {
		t.Fatalf("% x: Each ends at %d, ahead of a frame", b, at)
	}
}

func TestAnyBytes(t *testing.T) {
	readAll(t, nil)
	r := rand.New(rand.NewSource(8))
	for range 20000 {
		b := someBytes(r, 30)
		readAll(t, b)
		for range r.Intn(4) {
			b = append(frame(t, someBytes(r, 20)), b...)
		}
		readAll(t, b)
		if len(b) > 0 {
			turn(b, r.Intn(8*len(b)), 1)
			readAll(t, b)
		}
	}
}

func FuzzUnframe(f *testing.F) {
	for _, s := range []string{"", "00", "00 d8 ea 82 a2", "01 d2 8f 25 49 00", "80 00 d8 ea 82 a2", "81 80 80 08", "00 d8 ea 82 a2 00 d8 ea 82 a3"} {
		f.Add(raw(f, s))
	}
	f.Fuzz(readAll)
}
