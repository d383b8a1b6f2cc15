package codec_test

import (
	"math"
	"strconv"
	"strings"
	"testing"

	"lectern/api"
	"lectern/codec"
)

// P2.6

// all is one of each kind, one behind the other; the places ahead of them are allAt.
func all(t testing.TB) []byte {
	return raw(t, "ac 02  01  02 01 00 00  03 61 62 63  78 79  00")
}

func wantAt(t testing.TB, r *codec.Reader, at int, err, done api.Errno) {
	t.Helper()
	want(t, "At", r.At(), at)
	wantErr(t, "Err", r.Err(), err)
	wantErr(t, "Done", r.Done(), done)
}

func TestReader(t *testing.T) {
	r := codec.New(all(t))
	wantAt(t, r, 0, api.OK, api.ErrRest)
	want(t, "Uint", r.Uint(), 300)
	wantAt(t, r, 2, api.OK, api.ErrRest)
	want(t, "Int", r.Int(), -1)
	wantAt(t, r, 3, api.OK, api.ErrRest)
	want(t, "Fixed", r.Fixed(4), 258)
	wantAt(t, r, 7, api.OK, api.ErrRest)
	want(t, "Field", string(r.Field()), "abc")
	wantAt(t, r, 11, api.OK, api.ErrRest)
	want(t, "Take nothing", len(r.Take(0)), 0)
	wantAt(t, r, 11, api.OK, api.ErrRest)
	want(t, "Take", string(r.Take(2)), "xy")
	wantAt(t, r, 13, api.OK, api.ErrRest)
	want(t, "an empty Field", len(r.Field()), 0)
	wantAt(t, r, 14, api.OK, api.OK)
	want(t, "Take nothing at the end", len(r.Take(0)), 0)
	wantAt(t, r, 14, api.OK, api.OK)
	want(t, "Uint at the end", r.Uint(), 0)
	wantAt(t, r, 14, api.ErrShort, api.ErrShort)
}

func TestReaderOfNothing(t *testing.T) {
	for _, b := range [][]byte{nil, {}} {
		r := codec.New(b)
		wantAt(t, r, 0, api.OK, api.OK)
		wantBytes(t, "Take", r.Take(0), nil)
		for range r.Each() {
			t.Error("a field of nothing")
		}
		wantAt(t, r, 0, api.OK, api.OK)
	}
}

func TestReaderHasACopy(t *testing.T) {
	b := []byte("\x01a\x01b")
	r := codec.New(b)
	clear(b)
	want(t, "Field", string(r.Field()), "a")
	b[3] = 'z'
	clear(r.Take(1))
	want(t, "Take", string(r.Take(1)), "b")
	wantAt(t, r, 4, api.OK, api.OK)
}

// reads are all calls that read on, at arguments that are good as long as there are bytes.
func reads() map[string]func(*codec.Reader) int {
	return map[string]func(*codec.Reader) int{
		"Uint":  func(r *codec.Reader) int { return int(r.Uint()) },
		"Int":   func(r *codec.Reader) int { return r.Int() },
		"Fixed": func(r *codec.Reader) int { return int(r.Fixed(1)) },
		"Field": func(r *codec.Reader) int { return len(r.Field()) },
		"Take":  func(r *codec.Reader) int { return len(r.Take(1)) },
		"Each":  func(r *codec.Reader) int { return eachTold(r) },
	}
}

func eachTold(r *codec.Reader) int {
	n := 0
	for range r.Each() {
		n++
	}
	return n
}

// faults are calls with an error, behind two bytes that were read.
func faults() []struct {
	name string
	rest string
	want api.Errno
	call func(*codec.Reader) int
} {
	return []struct {
		name string
		rest string
		want api.Errno
		call func(*codec.Reader) int
	}{
		{"Uint short", "80", api.ErrShort, func(r *codec.Reader) int { return int(r.Uint()) }},
		{"Uint long", "81 00 01 61", api.ErrVarint, func(r *codec.Reader) int { return int(r.Uint()) }},
		{"Int short", "ff ff", api.ErrShort, func(r *codec.Reader) int { return r.Int() }},
		{"Int long", "81 80 00", api.ErrVarint, func(r *codec.Reader) int { return r.Int() }},
		{"Fixed short", "01 02 03", api.ErrShort, func(r *codec.Reader) int { return int(r.Fixed(4)) }},
		{"Fixed 0", "01 61", api.ErrRange, func(r *codec.Reader) int { return int(r.Fixed(0)) }},
		{"Fixed 9", "01 61", api.ErrRange, func(r *codec.Reader) int { return int(r.Fixed(9)) }},
		{"Fixed -1", "", api.ErrRange, func(r *codec.Reader) int { return int(r.Fixed(-1)) }},
		{"Field short", "03 61 62", api.ErrShort, func(r *codec.Reader) int { return len(r.Field()) }},
		{"Field of no length", "80 00", api.ErrVarint, func(r *codec.Reader) int { return len(r.Field()) }},
		{"Field too long", "81 80 40 61", api.ErrLong, func(r *codec.Reader) int { return len(r.Field()) }},
		{"Take short", "01 61", api.ErrShort, func(r *codec.Reader) int { return len(r.Take(3)) }},
		{"Take all", "01 61", api.ErrShort, func(r *codec.Reader) int { return len(r.Take(math.MaxInt)) }},
		{"Take -1", "01 61", api.ErrRange, func(r *codec.Reader) int { return len(r.Take(-1)) }},
		{"Take the least", "01 61", api.ErrRange, func(r *codec.Reader) int { return len(r.Take(math.MinInt)) }},
		{"Each short", "01", api.ErrShort, eachTold},
		{"Each of no length", "80 00 01 61", api.ErrVarint, eachTold},
		{"Each too long", "81 80 40 61", api.ErrLong, eachTold},
	}
}

func TestTheFirstErrorStays(t *testing.T) {
	for _, c := range faults() {
		for name, again := range reads() {
			r := codec.New(append([]byte("\x01\x01"), raw(t, c.rest)...))
			want(t, "ahead", string(r.Take(2)), "\x01\x01")
			want(t, c.name, c.call(r), 0)
			for range 2 {
				want(t, c.name+": At", r.At(), 2)
				wantErr(t, c.name+": Err", r.Err(), c.want)
				wantErr(t, c.name+": Done", r.Done(), c.want)
				want(t, c.name+", then "+name, again(r), 0)
			}
			r.Take(-1)
			r.Fixed(0)
			want(t, "Take of nothing", len(r.Take(0)), 0)
			wantAt(t, r, 2, c.want, c.want)
		}
	}
}

func TestDoneIsNoError(t *testing.T) {
	r := codec.New([]byte("\x01a"))
	wantErr(t, "Done", r.Done(), api.ErrRest)
	wantErr(t, "Err", r.Err(), api.OK)
	want(t, "Field", string(r.Field()), "a")
	wantErr(t, "Done", r.Done(), api.OK)
}

func told(r *codec.Reader, most int) string {
	var out []string
	for i, f := range r.Each() {
		out = append(out, strconv.Itoa(i)+"="+string(f))
		if len(out) == most {
			break
		}
	}
	return strings.Join(out, " ")
}

func TestEach(t *testing.T) {
	for _, c := range []struct {
		wire string
		want string
		at   int
		err  api.Errno
	}{
		{"", "", 0, api.OK},
		{"00", "0=", 1, api.OK},
		{"01 61 00 02 62 63", "0=a 1= 2=bc", 6, api.OK},
		{"01 61 02 62", "0=a", 2, api.ErrShort},
		{"01 61 80 00 01 62", "0=a", 2, api.ErrVarint},
		{"01 61 01 62 81 80 40", "0=a 1=b", 4, api.ErrLong},
	} {
		r := codec.New(raw(t, c.wire))
		want(t, c.wire, told(r, -1), c.want)
		wantAt(t, r, c.at, c.err, c.err)
		want(t, "again", told(r, -1), "")
		wantAt(t, r, c.at, c.err, c.err)
	}
}

func TestEachIsLeft(t *testing.T) {
	r := codec.New([]byte("\x01a\x01b\x01c\x01d\x01"))
	each := r.Each()
	wantAt(t, r, 0, api.OK, api.ErrRest)
	want(t, "Field", string(r.Field()), "a")
	for i, f := range each {
		want(t, "the number", i, 0)
		want(t, "the field", string(f), "b")
		break
	}
	wantAt(t, r, 4, api.OK, api.ErrRest)
	want(t, "left again", told(r, 1), "0=c")
	wantAt(t, r, 6, api.OK, api.ErrRest)
	want(t, "to the end", told(r, -1), "0=d")
	wantAt(t, r, 8, api.ErrShort, api.ErrShort)
}

func TestEachAmongOtherReads(t *testing.T) {
	r := codec.New([]byte("\x01a\x07\x01b\x08\x01c"))
	var out []string
	for i, f := range r.Each() {
		out = append(out, strconv.Itoa(i)+string(f)+strconv.Itoa(int(r.Uint())))
	}
	want(t, "told", strings.Join(out, " "), "0a7 1b8 2c0")
	wantAt(t, r, 8, api.ErrShort, api.ErrShort)
}

// What the one who ranges throws is no fault of the bytes: it goes through, and the reader is as ahead.
func TestEachLetsPanicsThrough(t *testing.T) {
	r := codec.New([]byte("\x01a\x01b"))
	func() {
		defer func() { want(t, "thrown", recover(), any("mine")) }()
		for range r.Each() {
			panic("mine")
		}
	}()
	wantAt(t, r, 2, api.OK, api.ErrRest)
	want(t, "the rest", told(r, -1), "0=b")
}

func TestNoReader(t *testing.T) {
	for _, r := range []*codec.Reader{nil, {}, new(codec.Reader)} {
		wantAt(t, r, 0, api.ErrReader, api.ErrReader)
		for name, call := range reads() {
			want(t, name, call(r), 0)
		}
		for _, c := range faults() {
			want(t, c.name, c.call(r), 0)
		}
		wantBytes(t, "Take", r.Take(0), nil)
		wantAt(t, r, 0, api.ErrReader, api.ErrReader)
	}
}
