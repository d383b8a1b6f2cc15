package utf_test

import (
	"encoding/hex"
	"math"
	"slices"
	"strconv"
	"strings"
	"testing"
	"unsafe"

	"lectern/api"
	"lectern/utf"
)

// raw is the bytes that s names, as a text: "e2 82 ac".
func raw(t testing.TB, s string) string {
	t.Helper()
	b, err := hex.DecodeString(strings.ReplaceAll(s, " ", ""))
	if err != nil {
		t.Fatal(err)
	}
	return string(b)
}

func wantErr(t testing.TB, what string, got, want api.Errno) {
	t.Helper()
	if got != want {
		t.Errorf("%s: error %d, want %d", what, got, want)
	}
}

func want[T comparable](t testing.TB, what string, got, want T) {
	t.Helper()
	if got != want {
		t.Errorf("%s: %v, want %v", what, got, want)
	}
}

func wantRunes(t testing.TB, what string, got, want []rune) {
	t.Helper()
	if !slices.Equal(got, want) {
		t.Errorf("%s: %x, want %x", what, got, want)
	}
}

// good are texts as bytes, with their scalars: both sides of each length, of the surrogates and of the end.
func good() []struct {
	wire string
	l    []rune
} {
	return []struct {
		wire string
		l    []rune
	}{
		{"", nil}, {"00", []rune{0}}, {"61", []rune{0x61}}, {"7f", []rune{0x7f}}, {"c2 80", []rune{0x80}}, {"c3 a9", []rune{0xe9}},
		{"df bf", []rune{0x7ff}}, {"e0 a0 80", []rune{0x800}}, {"e2 82 ac", []rune{0x20ac}}, {"e0 bf bf", []rune{0xfff}},
		{"e1 80 80", []rune{0x1000}}, {"ed 9f bf", []rune{0xd7ff}}, {"ee 80 80", []rune{0xe000}}, {"ef bb bf", []rune{0xfeff}},
		{"ef bf bd", []rune{0xfffd}}, {"ef bf be", []rune{0xfffe}}, {"ef bf bf", []rune{0xffff}}, {"f0 90 80 80", []rune{0x10000}},
		{"f0 9f 99 82", []rune{0x1f642}}, {"f3 bf bf bf", []rune{0xfffff}}, {"f4 80 80 80", []rune{0x100000}},
		{"f4 8f bf bf", []rune{0x10ffff}}, {"61 c3 a9 00 e2 82 ac f0 90 80 80 62", []rune{0x61, 0xe9, 0, 0x20ac, 0x10000, 0x62}},
		{"f4 8f bf bf ed 9f bf c2 80 7f", []rune{0x10ffff, 0xd7ff, 0x80, 0x7f}}, {"ef bf bd ef bf bd", []rune{0xfffd, 0xfffd}},
		{"65 cc 81", []rune{0x65, 0x301}}, {strings.Repeat("e2 82 ac", 1000), slices.Repeat([]rune{0x20ac}, 1000)},
	}
}

// bad are bytes that no form stands at the front of whole.
func bad() []string {
	return []string{
		// behind a first byte alone, or none's
		"80", "bf", "80 80", "bf bf bf bf", "a9 61", "fe", "ff", "f8", "f8 88 80 80 80", "fb bf bf bf bf", "fc 84 80 80 80 80", "fd bf bf bf bf bf",
		// not whole at the end
		"c2", "c3", "df", "e0", "e0 a0", "e2", "e2 82", "ef bf", "f0", "f0 90", "f0 90 80", "f4", "f4 8f", "f4 8f bf",
		// not whole ahead of others
		"c3 61", "c3 c3 a9", "c3 00", "df 7f", "df c0", "e2 61", "e2 82 41", "e2 82 e2 82 ac", "e2 82 c0", "e2 41 ac", "e2 c2 80", "e2 7f 80",
		"f0 61", "f0 90 61", "f0 90 80 61", "f0 90 80 c0", "f0 90 80 7f", "f0 90 c0 80", "f0 41 80 80", "f0 c2 80 80", "f4 8f bf ff", "c3 ff", "c3 fe",
		// more than it needs
		"c0 80", "c0 af", "c1 81", "c1 bf", "e0 80 80", "e0 81 bf", "e0 82 80", "e0 9f bf", "f0 80 80 80", "f0 80 81 bf", "f0 82 82 ac", "f0 8f bf bf",
		// surrogates
		"ed a0 80", "ed a1 80", "ed af bf", "ed b0 80", "ed bf bf", "ed a0 80 ed b0 80", "ed a0 bd ed b9 82",
		// above the greatest
		"f4 90 80 80", "f4 bf bf bf", "f5 80 80 80", "f6 80 80 80", "f7 bf bf bf",
	}
}

// P4.1

func TestCheck(t *testing.T) {
	for _, c := range good() {
		at, e := utf.Check(raw(t, c.wire))
		wantErr(t, c.wire, e, api.OK)
		want(t, c.wire, at, 0)
	}
}

func TestCheckOfNoText(t *testing.T) {
	for _, wire := range bad() {
		for _, ahead := range []string{"", "a", "é", "€", "𐀀", "\ufffd", "a€é", strings.Repeat("€", 400)} {
			for _, behind := range []string{"", "a", "€", "\xff"} {
				s := ahead + raw(t, wire) + behind
				at, e := utf.Check(s)
				wantErr(t, strconv.Quote(s), e, api.ErrUTF)
				want(t, strconv.Quote(s), at, len(ahead))
			}
		}
	}
	at, e := utf.Check("a\xff")
	wantErr(t, "the chapter's", e, api.ErrUTF)
	want(t, "the chapter's", at, 1)
}

// P4.2

func TestDecode(t *testing.T) {
	for _, c := range good() {
		l, at, e := utf.Decode(raw(t, c.wire))
		wantErr(t, c.wire, e, api.OK)
		wantRunes(t, c.wire, l, c.l)
		want(t, "its place", at, 0)
	}
}

func TestDecodeOfNoText(t *testing.T) {
	for _, wire := range bad() {
		for _, ahead := range []string{"", "a", "a€é"} {
			l, at, e := utf.Decode(ahead + raw(t, wire))
			wantErr(t, wire, e, api.ErrUTF)
			wantRunes(t, wire, l, nil)
			want(t, wire, at, len(ahead))
		}
	}
}

func TestEncode(t *testing.T) {
	for _, c := range good() {
		s, at, e := utf.Encode(c.l)
		wantErr(t, c.wire, e, api.OK)
		want(t, c.wire, s, raw(t, c.wire))
		want(t, "its place", at, 0)
	}
	s, at, e := utf.Encode([]rune{})
	wantErr(t, "of an empty list", e, api.OK)
	want(t, "of an empty list", s, "")
	want(t, "its place", at, 0)
}

// noScalars are numbers on both sides of what is one.
func noScalars() []rune {
	return []rune{-1, -2, -0x80, -0xd800, math.MinInt32, 0xd800, 0xd801, 0xdbff, 0xdc00, 0xdffe, 0xdfff, 0x110000, 0x110001, 0x1fffff, 0x200000, math.MaxInt32}
}

func TestEncodeOfNoScalars(t *testing.T) {
	for _, r := range noScalars() {
		for _, c := range []struct {
			l    []rune
			want int
		}{
			{[]rune{r}, 0}, {[]rune{r, 0x61}, 0}, {[]rune{0x61, r}, 1}, {[]rune{0x20ac, 0x10ffff, r, 0x61}, 2}, {[]rune{0, 0xfffd, 0xd7ff, r, r, -1}, 3},
			{append(make([]rune, 500), r), 500},
		} {
			s, at, e := utf.Encode(c.l)
			wantErr(t, strconv.Itoa(int(r)), e, api.ErrRune)
			want(t, "its text", s, "")
			want(t, "its place", at, c.want)
		}
	}
}

func TestScalar(t *testing.T) {
	for r := rune(-0x1000); r < 0x120000; r++ {
		want(t, strconv.Itoa(int(r)), utf.Scalar(r), 0 <= r && r < 0xd800 || 0xe000 <= r && r < 0x110000)
	}
	for _, r := range noScalars() {
		want(t, strconv.Itoa(int(r)), utf.Scalar(r), false)
	}
}

// P4.3

func wantRead(t testing.TB, what string, r, wantR rune, long, wantLong int, e, wantE api.Errno) {
	t.Helper()
	if r != wantR || long != wantLong || e != wantE {
		t.Errorf("%s: %x, %d bytes, error %d; want %x, %d bytes, error %d", what, r, long, e, wantR, wantLong, wantE)
	}
}

func wantNext(t testing.TB, s string, at int, wantR rune, wantLong int, wantE api.Errno) {
	t.Helper()
	r, long, e := utf.Next(s, at)
	wantRead(t, "Next("+strconv.Quote(s)+", "+strconv.Itoa(at)+")", r, wantR, long, wantLong, e, wantE)
}

func wantLast(t testing.TB, s string, at int, wantR rune, wantLong int, wantE api.Errno) {
	t.Helper()
	r, long, e := utf.Last(s, at)
	wantRead(t, "Last("+strconv.Quote(s)+", "+strconv.Itoa(at)+")", r, wantR, long, wantLong, e, wantE)
}

func TestNextAndLast(t *testing.T) {
	for _, c := range good() {
		s := raw(t, c.wire)
		if len(c.l) == 1 {
			for _, ahead := range []string{"", "a", "é", "\xff", "\x80", "\xe2\x82", "\xf0\x90\x80"} {
				for _, behind := range []string{"", "a", "€", "\xff", "\x80", "\x80\x80\x80", "\xe2\x82"} {
					wantNext(t, ahead+s+behind, len(ahead), c.l[0], len(s), api.OK)
					wantLast(t, ahead+s+behind, len(ahead)+len(s), c.l[0], len(s), api.OK)
				}
			}
			for at := 1; at < len(s); at++ { // within a form none begins, and none ends
				wantNext(t, s, at, 0, 0, api.ErrUTF)
				wantLast(t, s, at, 0, 0, api.ErrUTF)
			}
		}
	}
	wantLast(t, "a€", 4, 0x20ac, 3, api.OK)
	wantLast(t, "a€", 1, 'a', 1, api.OK)
	wantNext(t, "a€", 1, 0x20ac, 3, api.OK)
}

func TestNextAndLastOfNoForm(t *testing.T) {
	for _, wire := range bad() {
		s := raw(t, wire)
		for _, ahead := range []string{"", "a", "€", "\xff"} {
			wantNext(t, ahead+s, len(ahead), 0, 0, api.ErrUTF)
		}
	}
	for _, wire := range []string{
		"80", "bf", "ff", "fe", "f8", "c2", "c3", "df", "e2", "e2 82", "f0", "f0 90", "f0 90 80", "c0 80", "c1 bf", "e0 80 80", "e0 9f bf", "f0 80 80 80",
		"f0 8f bf bf", "ed a0 80", "ed bf bf", "f4 90 80 80", "f7 bf bf bf", "f8 88 80 80 80", "fc 84 80 80 80 80", "80 80", "80 80 80", "80 80 80 80",
		"80 80 80 80 80", "61 80", "7f bf", "c3 a9 80", "e2 82 ac 80", "f0 90 80 80 80", "f0 90 80 80 80 80 80 80", "c3 80 80", "c3 80 80 80", "e2 82 ac bf bf", "ff bf",
	} {
		s := raw(t, wire)
		for _, ahead := range []string{"", "a", "€", "\xff"} {
			for _, behind := range []string{"", "a", "\xac", "\x80\x80"} {
				wantLast(t, ahead+s+behind, len(ahead)+len(s), 0, 0, api.ErrUTF)
			}
		}
	}
}

func TestNextAndLastOfNoPlace(t *testing.T) {
	for _, s := range []string{"", "a", "a€", "\xff", "a\xff\xff"} {
		for _, at := range []int{-1, -2, len(s), len(s) + 1, math.MinInt, math.MaxInt} {
			wantNext(t, s, at, 0, 0, api.ErrRange)
		}
		for _, at := range []int{-1, 0, len(s) + 1, len(s) + 2, math.MinInt, math.MaxInt} {
			wantLast(t, s, at, 0, 0, api.ErrRange)
		}
	}
}

// P4.4

// told is what Each tells of the first most scalars: places and numbers.
func told(each func(func(int, rune) bool), most int) string {
	var out []string
	for at, r := range each {
		out = append(out, strconv.Itoa(at)+"="+strconv.FormatInt(int64(r), 16))
		if len(out) == most {
			break
		}
	}
	return strings.Join(out, " ")
}

func TestEach(t *testing.T) {
	for _, c := range []struct{ s, want string }{
		{"", ""}, {"a", "0=61"}, {"\x00", "0=0"}, {"a€é𐀀b", "0=61 1=20ac 4=e9 6=10000 10=62"}, {"\ufffda\ufffd", "0=fffd 3=61 4=fffd"},
		{"\xff", ""}, {"\x80a", ""}, {"a\xff", "0=61"}, {"a€\xe2\x82", "0=61 1=20ac"}, {"é\xed\xa0\x80a", "0=e9"}, {"ab\xc0\x80c", "0=61 1=62"},
		{"a\xe2\x82Ab", "0=61"},
	} {
		each := utf.Each(c.s)
		for range 2 { // gone over, and over again
			want(t, strconv.Quote(c.s), told(each, -1), c.want)
		}
	}
}

func TestEachIsLeft(t *testing.T) {
	each := utf.Each("a€b\xffc")
	want(t, "left at the first", told(each, 1), "0=61")
	want(t, "left at the second", told(each, 2), "0=61 1=20ac")
	want(t, "left at the last", told(each, 3), "0=61 1=20ac 4=62")
	want(t, "gone over", told(each, -1), "0=61 1=20ac 4=62")
	var out []string
	for at := range each {
		out = append(out, strconv.Itoa(at)+"("+told(each, 2)+")")
	}
	want(t, "one within the other", strings.Join(out, " "), "0(0=61 1=20ac) 1(0=61 1=20ac) 4(0=61 1=20ac)")
}

func TestEachLetsPanicsThrough(t *testing.T) {
	each := utf.Each("a€")
	func() {
		defer func() {
			want(t, "what the one who ranges throws", recover(), any("mine"))
		}()
		for range each {
			panic("mine")
		}
	}()
	want(t, "behind it", told(each, -1), "0=61 1=20ac")
}

func TestCount(t *testing.T) {
	for _, c := range good() {
		n, e := utf.Count(raw(t, c.wire))
		wantErr(t, c.wire, e, api.OK)
		want(t, c.wire, n, len(c.l))
	}
	for _, wire := range bad() {
		for _, ahead := range []string{"", "a", "a€é"} {
			n, e := utf.Count(ahead + raw(t, wire))
			wantErr(t, wire, e, api.ErrUTF)
			want(t, wire, n, 0)
		}
	}
}

func TestCut(t *testing.T) {
	for _, c := range []struct {
		s    string
		most int
		want string
	}{
		{"", 0, ""}, {"", 1, ""}, {"", math.MaxInt, ""}, {"a", 0, ""}, {"a", 1, "a"}, {"a", 2, "a"},
		{"a€", 0, ""}, {"a€", 1, "a"}, {"a€", 2, "a"}, {"a€", 3, "a"}, {"a€", 4, "a€"}, {"a€", 5, "a€"}, {"a€", math.MaxInt, "a€"},
		{"€b", 0, ""}, {"€b", 1, ""}, {"€b", 2, ""}, {"€b", 3, "€"}, {"€b", 4, "€b"}, {"é", 1, ""}, {"é", 2, "é"},
		{"𐀀𐀀", 3, ""}, {"𐀀𐀀", 4, "𐀀"}, {"𐀀𐀀", 5, "𐀀"}, {"𐀀𐀀", 7, "𐀀"}, {"𐀀𐀀", 8, "𐀀𐀀"}, {"\x00\x00", 1, "\x00"},
		{"e\u0301", 1, "e"}, {"e\u0301", 2, "e"}, {"e\u0301", 3, "e\u0301"},
	} {
		s, e := utf.Cut(c.s, c.most)
		what := strconv.Quote(c.s) + " at most " + strconv.Itoa(c.most)
		wantErr(t, what, e, api.OK)
		want(t, what, s, c.want)
	}
}

func TestNoCut(t *testing.T) {
	for _, most := range []int{-1, -2, math.MinInt} {
		for _, s := range []string{"", "a", "a€", "\xff"} { // of two errors the one named first
			out, e := utf.Cut(s, most)
			wantErr(t, strconv.Quote(s), e, api.ErrRange)
			want(t, strconv.Quote(s), out, "")
		}
	}
	for _, wire := range bad() {
		for _, most := range []int{0, 1, 2, 100, math.MaxInt} { // also where what is cut off is no text
			out, e := utf.Cut("a€"+raw(t, wire), most)
			wantErr(t, wire, e, api.ErrUTF)
			want(t, wire, out, "")
		}
	}
}

// P4.5

func TestCompare(t *testing.T) {
	// Each is ahead of all that follow.
	rising := []string{
		"", "\x00", "\x00\x00", "\x00a", "\x01", "A", "Z", "a", "aa", "aaa", "ab", "aé", "a€", "a𐀀", "b", "z", "\x7f", "\u0080", "é", "éa", "\u07ff", "\u0800", "€",
		"\ud7ff", "\ue000", "\ufffd", "\uffff", "\U00010000", "\U00010000\x00", "\U00010001", "\U000fffff", "\U00100000", "\U0010ffff", "\U0010ffffa",
	}
	for i, a := range rising {
		for j, b := range rising {
			n, e := utf.Compare(a, b)
			what := strconv.Quote(a) + " and " + strconv.Quote(b)
			wantErr(t, what, e, api.OK)
			want(t, what, n, max(-1, min(1, i-j)))
		}
	}
	n, e := utf.Compare("z", "é")
	wantErr(t, "the chapter's", e, api.OK)
	want(t, "the chapter's", n, -1)
}

func TestNoCompare(t *testing.T) {
	for _, wire := range bad() {
		s := raw(t, wire)
		for _, other := range []string{"", "a", "zz", "\U0010ffff", "\xff", s} {
			for _, ahead := range []string{"", "m"} { // also where the first scalars say how it comes out
				n, e := utf.Compare(ahead+s, other)
				wantErr(t, "the first, "+wire, e, api.ErrUTF)
				want(t, wire, n, 0)
				n, e = utf.Compare(other, ahead+s)
				wantErr(t, "the second, "+wire, e, api.ErrUTF)
				want(t, wire, n, 0)
			}
		}
	}
}

// P2 of the whole: nothing is shared, nothing behind an end is read, changed or handed out.

func TestAnswersShareNothing(t *testing.T) {
	one, _, _ := utf.Decode("a€bcdefghijklmnop")
	two, _, _ := utf.Decode("a€bcdefghijklmnop")
	want(t, "room behind the end", cap(one), len(one))
	clear(one)
	want(t, "another answer", string(two), "a€bcdefghijklmnop")

	room := []rune{'a', 'b', -1}
	s, _, e := utf.Encode(room[:2])
	wantErr(t, "behind the end", e, api.OK)
	wantRunes(t, "what was given", room, []rune{'a', 'b', -1})
	clear(room)
	want(t, "Encode", s, "ab")

	text := strings.Repeat("a€", 30)
	for _, most := range []int{1, 4, 50, 1000} {
		cut, _ := utf.Cut(text, most)
		if unsafe.StringData(cut) == unsafe.StringData(text) {
			t.Error("Cut hands out a piece of what was given")
		}
	}
}

// What lies behind the end of a text is not read: a form that ends there is not whole.
func TestTextsEndWhereTheyEnd(t *testing.T) {
	whole := "a€"
	for _, n := range []int{2, 3} {
		at, e := utf.Check(whole[:n])
		wantErr(t, "a beginning", e, api.ErrUTF)
		want(t, "a beginning", at, 1)
		wantNext(t, whole[:n], 1, 0, 0, api.ErrUTF)
		wantLast(t, whole[:n], n, 0, 0, api.ErrUTF)
	}
	wantNext(t, whole[1:], 0, 0x20ac, 3, api.OK)
	wantLast(t, whole[2:], 2, 0, 0, api.ErrUTF)
}
