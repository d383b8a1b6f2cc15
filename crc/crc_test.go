package crc_test

import (
	"bytes"
	"encoding/hex"
	"hash/crc32"
	"math"
	"math/rand"
	"strings"
	"sync"
	"testing"

	"lectern/api"
	"lectern/crc"
)

// raw is the bytes that s names: "d8 ea".
func raw(t testing.TB, s string) []byte {
	t.Helper()
	b, err := hex.DecodeString(strings.ReplaceAll(s, " ", ""))
	if err != nil {
		t.Fatal(err)
	}
	return b
}

func wantErr(t testing.TB, what string, got, want api.Errno) {
	t.Helper()
	if got != want {
		t.Errorf("%s: error %d, want %d", what, got, want)
	}
}

func wantSum(t testing.TB, what string, got, want uint32) {
	t.Helper()
	if got != want {
		t.Errorf("%s: %08x, want %08x", what, got, want)
	}
}

func wantInt(t testing.TB, what string, got, want int) {
	t.Helper()
	if got != want {
		t.Errorf("%s: %d, want %d", what, got, want)
	}
}

func wantBytes(t testing.TB, what string, got, want []byte) {
	t.Helper()
	if !bytes.Equal(got, want) {
		t.Errorf("%s: % x, want % x", what, got, want)
	}
}

// frame is Frame of what has to succeed.
func frame(t testing.TB, b []byte) []byte {
	t.Helper()
	out, e := crc.New().Frame(b)
	if e != api.OK {
		t.Fatalf("Frame of %d bytes: error %d", len(b), e)
	}
	return out
}

func someBytes(r *rand.Rand, most int) []byte {
	b := make([]byte, r.Intn(most+1))
	r.Read(b)
	return b
}

// sumOf is Sum by other means: the library's.
func sumOf(b []byte) uint32 { return crc32.Checksum(b, crc32.MakeTable(crc32.Castagnoli)) }

// notMade are tables that New did not make.
func notMade() []*crc.Table { return []*crc.Table{nil, {}, new(crc.Table)} }

// P3.1

func TestSum(t *testing.T) {
	up := make([]byte, 32)
	down := make([]byte, 32)
	for i := range up {
		up[i], down[31-i] = byte(i), byte(i)
	}
	for _, c := range []struct {
		b    []byte
		want uint32
	}{
		{nil, 0}, {[]byte{}, 0}, {[]byte("123456789"), 0xE3069283}, {[]byte("a"), 0xC1D04330}, {[]byte{0}, 0x527D5351},
		{make([]byte, 32), 0x8A9136AA}, {bytes.Repeat([]byte{0xff}, 32), 0x62A8AB43}, {up, 0x46DD794E}, {down, 0x113FDB5C},
		{raw(t, "01 c0 00 00 00000000 00000000 00000000 14 00 00 00 00 00 04 00 00 00 00 14 00 00 00 18 28 00 00 00 00000000 02 00 00 00 00000000"), 0xD9963A56},
	} {
		wantSum(t, hex.EncodeToString(c.b), crc.New().Sum(c.b), c.want)
	}
}

func TestSumIsTheLibrarys(t *testing.T) {
	r := rand.New(rand.NewSource(1))
	table := crc.New()
	for a := range 256 {
		wantSum(t, "one byte", table.Sum([]byte{byte(a)}), sumOf([]byte{byte(a)}))
	}
	for range 3000 {
		b := someBytes(r, 300)
		wantSum(t, hex.EncodeToString(b), table.Sum(b), sumOf(b))
	}
	big := make([]byte, 1<<20+1)
	r.Read(big)
	wantSum(t, "a long one", table.Sum(big), sumOf(big))
}

func TestNoTable(t *testing.T) {
	good := frame(t, []byte("abc"))
	for _, none := range notMade() {
		for _, b := range [][]byte{nil, {}, {0}, []byte("123456789"), good, make([]byte, api.MaxFrame+1)} {
			wantSum(t, "Sum", none.Sum(b), 0)
			wantSum(t, "Extend", none.Extend(0, b), 0)
			wantSum(t, "Extend", none.Extend(77, b), 0)
			out, e := none.Frame(b)
			wantErr(t, "Frame", e, api.ErrCrc)
			wantBytes(t, "Frame", out, nil)
			out, long, e := none.Unframe(b)
			wantErr(t, "Unframe", e, api.ErrCrc)
			wantBytes(t, "Unframe", out, nil)
			wantInt(t, "Unframe's length", long, 0)
			for at, p := range none.Each(b) {
				t.Errorf("Each: % x at %d", p, at)
			}
			wantInt(t, "Made", none.Made(), 0)
		}
	}
}

// P3.2

func TestExtend(t *testing.T) {
	table := crc.New()
	whole := []byte("123456789")
	for n := range len(whole) + 1 {
		wantSum(t, "in two", table.Extend(table.Sum(whole[:n]), whole[n:]), 0xE3069283)
	}
	r := rand.New(rand.NewSource(2))
	for range 3000 {
		a, b, sum := someBytes(r, 60), someBytes(r, 60), r.Uint32()
		wantSum(t, "Extend", table.Extend(table.Sum(a), b), sumOf(append(bytes.Clone(a), b...)))
		wantSum(t, "Extend of 0", table.Extend(0, b), table.Sum(b))
		wantSum(t, "Extend of any sum", table.Extend(sum, b), crc32.Update(sum, crc32.MakeTable(crc32.Castagnoli), b))
		wantSum(t, "one byte more", table.Extend(sum, append(b, 7)), table.Extend(table.Extend(sum, b), []byte{7}))
	}
}

func TestExtendByNothing(t *testing.T) {
	table := crc.New()
	for range 2 { // ahead of the first byte, and behind it
		for _, sum := range []uint32{0, 1, 0xE3069283, math.MaxInt32, math.MaxUint32} {
			wantSum(t, "by nil", table.Extend(sum, nil), sum)
			wantSum(t, "by nothing", table.Extend(sum, []byte{}), sum)
		}
		table.Sum([]byte{1})
	}
}

// P3.3

// asks are all calls that may make the table.
func asks() map[string]func(*crc.Table, []byte) {
	return map[string]func(*crc.Table, []byte){
		"Sum":     func(t *crc.Table, b []byte) { t.Sum(b) },
		"Extend":  func(t *crc.Table, b []byte) { t.Extend(5, b) },
		"Frame":   func(t *crc.Table, b []byte) { t.Frame(b) },
		"Unframe": func(t *crc.Table, b []byte) { t.Unframe(b) },
		"Each":    func(t *crc.Table, b []byte) { t.Each(b) },
		"Each, gone over": func(t *crc.Table, b []byte) {
			for range t.Each(b) {
			}
		},
	}
}

func TestMade(t *testing.T) {
	bad := append(frame(t, []byte("abc")), 0)
	bad[1]++
	for name, ask := range asks() {
		for _, b := range [][]byte{{0}, {0x80}, []byte("123456789"), frame(t, nil), frame(t, []byte("abc")), bad, make([]byte, api.MaxFrame+1)} {
			table, other := crc.New(), crc.New()
			wantInt(t, "at first", table.Made(), 0)
			for _, none := range asks() {
				none(table, nil)
				none(table, []byte{})
				none(table, b[:0])
			}
			crc.Unmask(crc.Mask(1))
			wantInt(t, "without a byte", table.Made(), 0)
			ask(table, b)
			wantInt(t, name, table.Made(), 1)
			for _, again := range asks() {
				again(table, b)
				again(table, nil)
			}
			wantInt(t, name+", and again", table.Made(), 1)
			wantInt(t, "another table", other.Made(), 0)
		}
	}
}

func TestMadeOnceByMany(t *testing.T) {
	table := crc.New()
	b := frame(t, []byte("123456789"))
	sums := make([]uint32, 16)
	var many sync.WaitGroup
	for i := range sums {
		many.Go(func() {
			if n := table.Made(); n != 0 && n != 1 {
				t.Errorf("made %d times", n)
			}
			if i%2 == 0 {
				table.Unframe(b)
			}
			sums[i] = table.Sum([]byte("123456789"))
			wantInt(t, "Made", table.Made(), 1)
		})
	}
	many.Wait()
	for _, sum := range sums {
		wantSum(t, "Sum", sum, 0xE3069283)
	}
	wantInt(t, "Made", table.Made(), 1)
}

// P3.4

func TestMask(t *testing.T) {
	for _, c := range []struct{ sum, want uint32 }{
		{0, 0xA282EAD8}, {1, 0xA284EAD8}, {1 << 14, 0x2282EAD8}, {1 << 15, 0xA282EAD9}, {0x80000000, 0xA283EAD8},
		{0xFFFFFFFF, 0xA282EAD7}, {0xE3069283, 0xC78AB0E5}, {0x8A9136AA, 0x0FD7FFFA},
	} {
		wantSum(t, "Mask", crc.Mask(c.sum), c.want)
		wantSum(t, "Unmask", crc.Unmask(c.want), c.sum)
	}
}

func TestUnmaskUndoesMask(t *testing.T) {
	r := rand.New(rand.NewSource(3))
	for i := range 100000 {
		sum := r.Uint32()
		if i < 64 {
			sum = uint32(1)<<(i/2) - uint32(i%2)
		}
		wantSum(t, "Mask", crc.Mask(sum), (sum>>15|sum<<17)+0xA282EAD8)
		wantSum(t, "Unmask of Mask", crc.Unmask(crc.Mask(sum)), sum)
		wantSum(t, "Mask of Unmask", crc.Mask(crc.Unmask(sum)), sum)
	}
}
