package utf_test

import (
	"bytes"
	"math/rand"
	"slices"
	"strconv"
	"strings"
	"testing"
	"unicode/utf8"

	"lectern/api"
	"lectern/utf"
)

// someScalar has any number of bits, so that each length of a form comes.
func someScalar(r *rand.Rand) rune {
	for {
		if n := rune(r.Intn(0x110000) >> r.Intn(21)); utf.Scalar(n) {
			return n
		}
	}
}

func someScalars(r *rand.Rand, most int) []rune {
	l := make([]rune, r.Intn(most+1))
	for i := range l {
		l[i] = someScalar(r)
	}
	return l
}

func someText(r *rand.Rand, most int) string { return string(someScalars(r, most)) }

// edges are bytes on both sides of all that tells forms from what is none.
const edges = "\x00\x41\x7f\x80\x8f\x90\x9f\xa0\xac\xbf\xc0\xc1\xc2\xdf\xe0\xe1\xe2\xec\xed\xee\xef\xf0\xf1\xf3\xf4\xf5\xf7\xf8\xff"

// edgyText is a text, or nearly so: forms with an edge among them, or edges alone.
func edgyText(r *rand.Rand) string {
	b := []byte(someText(r, 6))
	for range r.Intn(3) {
		at := r.Intn(len(b) + 1)
		b = slices.Insert(b, at, edges[r.Intn(len(edges))])
	}
	if r.Intn(3) == 0 {
		b = b[:r.Intn(len(b)+1)]
	}
	return string(b)
}

// readOf is Next by other means: the library's.
func readOf(s string) (rune, int, api.Errno) {
	n, long := utf8.DecodeRuneInString(s)
	if n == utf8.RuneError && long < 2 {
		return 0, 0, api.ErrUTF
	}
	return n, long, api.OK
}

// lastOf is Last by other means, at a text's end: some of its last bytes are a form alone.
func lastOf(s string) (rune, int, api.Errno) {
	for long := 1; long <= len(s); long++ {
		if n, wide, e := readOf(s[len(s)-long:]); e == api.OK && wide == long {
			return n, long, e
		}
	}
	return 0, 0, api.ErrUTF
}

// decodeOf is Decode by other means.
func decodeOf(s string) (l []rune, at int, e api.Errno) {
	for at < len(s) {
		n, long, e := readOf(s[at:])
		if e != api.OK {
			return nil, at, e
		}
		l, at = append(l, n), at+long
	}
	return l, 0, api.OK
}

// readAll holds every call that reads against the library's, on any bytes.
func readAll(t *testing.T, s string) {
	t.Helper()
	l, at, e := decodeOf(s)
	place, err := utf.Check(s)
	got, where, decoded := utf.Decode(s)
	n, counted := utf.Count(s)
	if place != at || where != at || err != e || decoded != e || counted != e || !slices.Equal(got, l) || n != len(l) || (err == api.OK) != utf8.ValidString(s) {
		t.Fatalf("%q: Check %d %d, Decode %x %d %d, Count %d %d; want %x, place %d, error %d", s, place, err, got, where, decoded, n, counted, l, at, e)
	}
	end := 0
	for at, n := range utf.Each(s) {
		want, long, e := readOf(s[end:])
		if at != end || n != want || e != api.OK {
			t.Fatalf("%q: told %x at %d; want %x at %d, error %d", s, n, at, want, end, e)
		}
		end += long
	}
	if e == api.OK && end != len(s) || e != api.OK && end != at {
		t.Fatalf("%q: Each ends at %d", s, end)
	}
	for at := range s {
		readAt(t, s, at)
	}
}

func readAt(t *testing.T, s string, at int) {
	t.Helper()
	n, long, e := readOf(s[at:])
	wantNext(t, s, at, n, long, e)
	n, long, e = lastOf(s[:at+1])
	wantLast(t, s, at+1, n, long, e)
}

func TestAllShortBytes(t *testing.T) {
	for n := range 1 << 16 {
		readAll(t, string([]byte{byte(n), byte(n >> 8)}))
	}
	for _, a := range []byte(edges) {
		for _, b := range []byte(edges) {
			for _, c := range []byte(edges) {
				readAll(t, string([]byte{a, b, c}))
				readAll(t, string([]byte{0xf0 | a&7, a, b, c}))
			}
		}
	}
}

func TestAnyBytes(t *testing.T) {
	r := rand.New(rand.NewSource(1))
	for range 20000 {
		b := make([]byte, r.Intn(10))
		r.Read(b)
		readAll(t, string(b))
		readAll(t, edgyText(r))
		readAll(t, someText(r, 20))
	}
}

func TestAllScalars(t *testing.T) {
	for n := range rune(0x110000) {
		s, at, e := utf.Encode([]rune{n})
		if !utf8.ValidRune(n) {
			if s != "" || at != 0 || e != api.ErrRune {
				t.Fatalf("%x: %q, place %d, error %d", n, s, at, e)
			}
			continue
		}
		if s != string(n) || at != 0 || e != api.OK {
			t.Fatalf("%x: %q, place %d, error %d", n, s, at, e)
		}
		wantNext(t, s, 0, n, len(s), api.OK)
		wantLast(t, s, len(s), n, len(s), api.OK)
	}
}

func FuzzRead(f *testing.F) {
	for _, s := range []string{"", "a", "a€é𐀀", "\ufffd", "\xff", "a\xe2\x82A", "\xed\xa0\x80", "\xc0\x80", "\xf4\x90\x80\x80", "\xf0\x8f\xbf\xbf"} {
		f.Add(s)
	}
	f.Fuzz(readAll)
}

// P4.6

// wantThere fails if l is not read back from its text, and wantBack if s is not written again from its scalars.
func wantThere(t *testing.T, l []rune) {
	t.Helper()
	s, _, e := utf.Encode(l)
	back, _, err := utf.Decode(s)
	if e != api.OK || err != api.OK || !slices.Equal(back, l) {
		t.Fatalf("%x is %q, errors %d, %d; and that %x", l, s, e, err, back)
	}
}

func wantBack(t *testing.T, s string) {
	t.Helper()
	l, _, e := utf.Decode(s)
	back, _, err := utf.Encode(l)
	if e != api.OK || err != api.OK || back != s {
		t.Fatalf("%q is %x, errors %d, %d; and that %q", s, l, e, err, back)
	}
}

func TestThereAndBack(t *testing.T) {
	wantThere(t, nil)
	wantBack(t, "")
	r := rand.New(rand.NewSource(2))
	for range 20000 {
		wantThere(t, someScalars(r, 30))
		wantBack(t, someText(r, 30))
	}
	all := make([]rune, 0, 0x110000)
	for n := range rune(0x110000) {
		if utf.Scalar(n) {
			all = append(all, n)
		}
	}
	wantThere(t, all)
	wantBack(t, string(all))
}

// P4.7

func wantOrder(t *testing.T, a, b []rune) {
	t.Helper()
	s, z := string(a), string(b)
	n, e := utf.Compare(s, z)
	if byBytes := bytes.Compare([]byte(s), []byte(z)); e != api.OK || n != slices.Compare(a, b) || n != byBytes {
		t.Fatalf("%q and %q: %d, error %d; by scalars %d, by bytes %d", s, z, n, e, slices.Compare(a, b), byBytes)
	}
}

func TestCompareIsWhatTheBytesSay(t *testing.T) {
	r := rand.New(rand.NewSource(3))
	for range 50000 {
		ahead, a, b := someScalars(r, 3), someScalars(r, 3), someScalars(r, 3)
		wantOrder(t, a, b)
		wantOrder(t, slices.Concat(ahead, a), slices.Concat(ahead, b))
		wantOrder(t, ahead, slices.Concat(ahead, b))
		wantOrder(t, slices.Concat(ahead, a), ahead)
		wantOrder(t, a, slices.Clone(a))
	}
	for n := rune(1); n < 0x110000; n++ { // each one, and the one ahead of it
		if utf.Scalar(n) && utf.Scalar(n-1) {
			wantOrder(t, []rune{n - 1}, []rune{n})
			wantOrder(t, []rune{n}, []rune{n - 1})
		}
	}
}

// P4.8

// onwards tells whether Next, again and again, comes to s's end; backwards whether Last comes to its beginning.
func onwards(s string) bool {
	for at := 0; at < len(s); {
		_, long, e := utf.Next(s, at)
		if e != api.OK {
			return false
		}
		at += long
	}
	return true
}

func backwards(s string) bool {
	for at := len(s); at > 0; {
		_, long, e := utf.Last(s, at)
		if e != api.OK {
			return false
		}
		at -= long
	}
	return true
}

func taken(s string) bool {
	_, e := utf.Check(s)
	return e == api.OK
}

func TestWhole(t *testing.T) {
	r := rand.New(rand.NewSource(4))
	texts := 0
	for range 50000 {
		s, text := edgyText(r), someText(r, 4)
		if taken(s) {
			texts++
		}
		if taken(s) != onwards(s) || taken(s) != backwards(s) {
			t.Fatalf("%q: Check %v, Next %v, Last %v", s, taken(s), onwards(s), backwards(s))
		}
		if !taken(text) || taken(text+s) != taken(s) {
			t.Fatalf("%q behind %q: %v, %v, both %v", s, text, taken(s), taken(text), taken(text+s))
		}
	}
	if texts < 5000 || texts > 45000 {
		t.Errorf("%d of 50000 are texts: that shows little of the one kind", texts)
	}
}

// What a text is cut to is a text, no longer than asked for, and one scalar more would be too long.
func TestCutIsTheLongest(t *testing.T) {
	r := rand.New(rand.NewSource(5))
	for range 5000 {
		s := someText(r, 8)
		for most := range len(s) + 3 {
			cut, e := utf.Cut(s, most)
			what := strconv.Quote(s) + " at most " + strconv.Itoa(most)
			wantErr(t, what, e, api.OK)
			if !taken(cut) || !strings.HasPrefix(s, cut) || len(cut) > most {
				t.Fatal(what, strconv.Quote(cut))
			}
			if _, long, e := utf.Next(s, len(cut)); e == api.OK && len(cut)+long <= most {
				t.Fatal(what, strconv.Quote(cut), "isn't the longest")
			}
		}
	}
}
