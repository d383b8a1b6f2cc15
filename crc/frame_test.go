package crc_test

import (
	"bytes"
	"encoding/binary"
	"math"
	"math/rand"
	"slices"
	"strconv"
	"strings"
	"testing"

	"lectern/api"
	"lectern/crc"
)

// frameOf is Frame by other means, of any length; bad is added to its sum.
func frameOf(b []byte, bad uint32) []byte {
	sum := sumOf(b)
	out := binary.AppendUvarint(nil, uint64(len(b)))
	out = binary.LittleEndian.AppendUint32(out, (sum>>15|sum<<17)+0xA282EAD8+bad)
	return append(out, b...)
}

// join lays lists of bytes one behind the other.
func join(l ...[]byte) []byte { return slices.Concat(l...) }

func wantUnframed(t testing.TB, what string, b, payload []byte, long int, err api.Errno) {
	t.Helper()
	got, n, e := crc.New().Unframe(b)
	wantErr(t, what, e, err)
	wantBytes(t, what, got, payload)
	wantInt(t, what+": its length", n, long)
}

// P3.5

func TestFrame(t *testing.T) {
	for _, c := range []struct{ payload, want string }{
		{"", "00 d8 ea 82 a2"},
		{"313233343536373839", "09 e5 b0 8a c7 313233343536373839"},
		{"00", "01 d2 8f 25 49 00"},
	} {
		wantBytes(t, c.payload, frame(t, raw(t, c.payload)), raw(t, c.want))
	}
	wantBytes(t, "of nil", frame(t, nil), raw(t, "00 d8 ea 82 a2"))
}

func TestFrameOfAnyLength(t *testing.T) {
	r := rand.New(rand.NewSource(4))
	for _, n := range []int{1, 127, 128, 255, 256, 1<<14 - 1, 1 << 14, 1<<21 - 1, 1 << 21, api.MaxFrame - 1, api.MaxFrame} {
		b := make([]byte, n)
		r.Read(b)
		out := frame(t, b)
		if !bytes.Equal(out, frameOf(b, 0)) {
			t.Errorf("%d bytes are another frame", n)
		}
		wantInt(t, "room behind the end", cap(out), len(out))
		got, long, e := crc.New().Unframe(out)
		if !bytes.Equal(got, b) || long != len(out) || e != api.OK {
			t.Errorf("%d bytes: %d are told, error %d", n, len(got), e)
		}
	}
}

func TestFrameTooLong(t *testing.T) {
	for _, n := range []int{api.MaxFrame + 1, api.MaxFrame + 2, 2 * api.MaxFrame} {
		out, e := crc.New().Frame(make([]byte, n))
		wantErr(t, strconv.Itoa(n), e, api.ErrLong)
		wantInt(t, "bytes of it", len(out), 0)
	}
}

func TestFrameSharesNothing(t *testing.T) {
	table := crc.New()
	b := []byte("abcdef")
	one, _ := table.Frame(b[:3])
	two, _ := table.Frame(b[:3])
	clear(one[:cap(one)])
	wantBytes(t, "the argument", b, []byte("abcdef"))
	b[0] = 'z'
	wantBytes(t, "another answer", two, frame(t, []byte("abc")))
}

// P3.6

func TestUnframe(t *testing.T) {
	for _, payload := range []string{"", "a", "123456789", strings.Repeat("x", 127), strings.Repeat("y", 128)} {
		f := frame(t, []byte(payload))
		for _, tail := range []string{"", "\x00", "\xff\xff", string(f)} {
			wantUnframed(t, payload, append(bytes.Clone(f), tail...), []byte(payload), len(f), api.OK)
		}
	}
}

func TestNoFrame(t *testing.T) {
	room := make([]byte, api.MaxFrame+20)
	for _, c := range []struct {
		what string
		b    []byte
	}{
		{"nil", nil},
		{"nothing", []byte{}},
		{"no end of the length", raw(t, "80")},
		{"no end of a long length", raw(t, "ff ff ff ff ff ff ff ff ff")},
		{"a length that would be shorter", raw(t, "80 00 d8 ea 82 a2")},
		{"a length that would be shorter by two", raw(t, "80 80 00 d8 ea 82 a2")},
		{"a length of eleven bytes", raw(t, "80 80 80 80 80 80 80 80 80 80 01 d8 ea 82 a2")},
		{"a length above 64 bits", raw(t, "80 80 80 80 80 80 80 80 80 02 d8 ea 82 a2")},
		{"no sum", raw(t, "00")},
		{"a sum of three bytes", raw(t, "00 d8 ea 82")},
		{"no payload", raw(t, "01 d2 8f 25 49")},
		{"a payload that is too short", raw(t, "09 e5 b0 8a c7 31323334353637 38")},
		{"a short payload with a sum that fits it", append([]byte{4}, frame(t, []byte("abc"))[1:]...)},
		{"a short payload with another sum", raw(t, "02 00 00 00 00 00")},
		{"a length above the limit, and nothing", raw(t, "81 80 80 08")},
		{"a length above the limit, and few bytes", raw(t, "81 80 80 08 d8 ea 82 a2 00")},
		{"a length above the limit, and all its bytes", frameOf(room[:api.MaxFrame+1], 0)},
		{"a length above the limit, and another sum", frameOf(room[:api.MaxFrame+1], 1)},
		{"the limit, and one byte too few", frameOf(room[:api.MaxFrame], 0)[:api.MaxFrame+7]},
		{"a length of 2^31", raw(t, "80 80 80 80 08 d8 ea 82 a2 00")},
		{"a length of 2^32", raw(t, "80 80 80 80 10 d8 ea 82 a2 00")},
		{"a length of 2^63 - 1", append(binary.AppendUvarint(nil, math.MaxInt64), room[:30]...)},
		{"a length of 2^63", append(binary.AppendUvarint(nil, 1<<63), room[:30]...)},
		{"a length of 2^64 - 1", append(binary.AppendUvarint(nil, math.MaxUint64), room[:30]...)},
		{"a length of 2^64 - 5", append(binary.AppendUvarint(nil, math.MaxUint64-4), room[:30]...)},
	} {
		wantUnframed(t, c.what, c.b, nil, 0, api.ErrFrame)
	}
}

func TestAnotherSum(t *testing.T) {
	for _, payload := range []string{"", "a", "123456789", strings.Repeat("x", 200)} {
		for _, bad := range []uint32{1, 1 << 7, 1 << 8, 1 << 16, 1 << 31, math.MaxUint32} {
			b := frameOf([]byte(payload), bad)
			wantUnframed(t, payload, b, nil, 0, api.ErrSum)
			wantUnframed(t, payload, append(b, 0), nil, 0, api.ErrSum)
		}
	}
	unmasked := binary.LittleEndian.AppendUint32([]byte{1}, sumOf([]byte("a")))
	wantUnframed(t, "a sum that isn't masked", append(unmasked, 'a'), nil, 0, api.ErrSum)
	turned := frame(t, []byte("a"))
	slices.Reverse(turned[1:5])
	wantUnframed(t, "a sum that begins with its greatest byte", turned, nil, 0, api.ErrSum)
}

func TestUnframeSharesNothing(t *testing.T) {
	table := crc.New()
	b := append(frame(t, []byte("abc")), "rest"...)
	was := bytes.Clone(b)
	one, _, _ := table.Unframe(b)
	two, _, _ := table.Unframe(b)
	clear(one[:cap(one)])
	wantBytes(t, "the argument", b, was)
	clear(b)
	wantBytes(t, "another answer", two, []byte("abc"))
	wantInt(t, "room behind the end", cap(two), len(two))
}

// What lies behind the length of the bytes is not read: a frame that ends there is none.
func TestUnframeEndsWithItsBytes(t *testing.T) {
	f := frame(t, []byte("abc"))
	for n := range f {
		wantUnframed(t, "a beginning", f[:n], nil, 0, api.ErrFrame)
	}
}

// P3.7

// told is what Each tells of the first most frames: places and payloads.
func told(each func(func(int, []byte) bool), most int) string {
	var out []string
	for at, payload := range each {
		out = append(out, strconv.Itoa(at)+"="+string(payload))
		if len(out) == most {
			break
		}
	}
	return strings.Join(out, " ")
}

func wantTold(t testing.TB, what, got, want string) {
	t.Helper()
	if got != want {
		t.Errorf("%s: told %q, want %q", what, got, want)
	}
}

func TestEach(t *testing.T) {
	a, none, long := frame(t, []byte("abc")), frame(t, nil), frame(t, bytes.Repeat([]byte("x"), 200))
	x := strings.Repeat("x", 200)
	for _, c := range []struct {
		what string
		b    []byte
		want string
	}{
		{"nil", nil, ""},
		{"nothing", []byte{}, ""},
		{"one", a, "0=abc"},
		{"one of nothing", none, "0="},
		{"some", join(a, none, none, long, a), "0=abc 8= 13= 18=" + x + " 224=abc"},
		{"a beginning of one behind", join(a, none, a[:7]), "0=abc 8="},
		{"bytes behind that are no frame", join(a, none, []byte{0x80, 0}, a), "0=abc 8="},
		{"another sum in the middle", join(a, frameOf([]byte("q"), 1), a), "0=abc"},
		{"another sum at first", join(frameOf(nil, 1), a), ""},
		{"none at first", join([]byte{0x80}, a), ""},
		{"a byte ahead", join([]byte{0}, a), ""},
		{"too long a frame", join(a, raw(t, "81 80 80 08"), a), "0=abc"},
	} {
		each := crc.New().Each(c.b)
		for range 2 { // gone over, and over again
			wantTold(t, c.what, told(each, -1), c.want)
		}
	}
}

func TestEachIsLeft(t *testing.T) {
	b := join(frame(t, []byte("a")), frame(t, []byte("b")), frame(t, []byte("c")))
	each := crc.New().Each(b)
	for range 2 {
		wantTold(t, "left at the first", told(each, 1), "0=a")
		wantTold(t, "left at the second", told(each, 2), "0=a 6=b")
		wantTold(t, "gone over", told(each, -1), "0=a 6=b 12=c")
	}
	var out []string
	for at := range each {
		out = append(out, strconv.Itoa(at)+"("+told(each, -1)+")")
	}
	wantTold(t, "one within the other", strings.Join(out, " "), "0(0=a 6=b 12=c) 6(0=a 6=b 12=c) 12(0=a 6=b 12=c)")
}

func TestEachSharesNothing(t *testing.T) {
	b := join(frame(t, []byte("a")), frame(t, []byte("b")))
	was := bytes.Clone(b)
	each := crc.New().Each(b)
	for _, payload := range each {
		clear(payload[:cap(payload)])
		wantBytes(t, "the argument", b, was)
	}
	wantTold(t, "behind a change of what was told", told(each, -1), "0=a 6=b")
	for range each {
		clear(b)
	}
	wantTold(t, "behind a change of the argument", told(each, -1), "0=a 6=b")
}

func TestEachLetsPanicsThrough(t *testing.T) {
	each := crc.New().Each(frame(t, []byte("a")))
	func() {
		defer func() {
			if recover() != "mine" {
				t.Error("what the one who ranges throws does not come back")
			}
		}()
		for range each {
			panic("mine")
		}
	}()
	wantTold(t, "behind it", told(each, -1), "0=a")
}
