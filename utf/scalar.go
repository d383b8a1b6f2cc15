package utf

import (
	"iter"
	"math/bits"

	"lectern/api"
)

// What numbers are scalars.
const (
	firstSurrogate = 0xd800
	lastSurrogate  = 0xdfff
	greatest       = 0x10ffff
)

// A form's first byte begins with as many ones as the form has bytes (none, if it is alone); each byte behind it with 10, ahead of six
// bits of the scalar.
const (
	maxWide  = 4
	moreBits = 6
)

// fault is the place of a byte that begins no form, thrown where a form has to be; it goes no further than caught.
type fault int

// caught does what throws, and tells a fault's place and its error.
func caught(do func()) (place int, e api.Errno) {
	defer func() {
		switch thrown := recover().(type) {
		case nil:
		case fault:
			place, e = int(thrown), api.ErrUTF
		default:
			panic(thrown)
		}
	}()
	do()
	return 0, api.OK
}

// scalars tells places and scalars of s, one behind the other, and throws where there is none: only for what is caught.
func scalars(s string) iter.Seq2[int, rune] {
	return func(yield func(int, rune) bool) {
		for at := 0; at < len(s); {
			r, long := first(s, at)
			if !yield(at, r) {
				return
			}
			at += long
		}
	}
}

// first reads the form that begins at a place ahead of s's end: its scalar, and how many bytes it has.
func first(s string, at int) (rune, int) {
	ones := bits.LeadingZeros8(^s[at])
	long := max(ones, 1)
	if ones == 1 || long > maxWide || long > len(s)-at {
		panic(fault(at))
	}
	r := rune(s[at] & (0x7f >> ones))
	for i := at + 1; i < at+long; i++ {
		if !goesOn(s[i]) {
			panic(fault(at))
		}
		r = r<<moreBits | rune(s[i]&(1<<moreBits-1))
	}
	if !Scalar(r) || long != wide(r) {
		panic(fault(at))
	}
	return r, long
}

// last reads the form that s, which is not empty, ends with. It goes back no further than a form may be long.
func last(s string) (rune, int) {
	at := len(s) - 1
	for at > 0 && len(s)-at < maxWide && goesOn(s[at]) {
		at--
	}
	r, long := first(s, at)
	if at+long != len(s) {
		panic(fault(at))
	}
	return r, long
}

// goesOn tells whether c may only stand behind a form's first byte.
func goesOn(c byte) bool { return c>>moreBits == 0b10 }

// wide is how many bytes the form of a scalar has.
func wide(r rune) int {
	switch {
	case r < 0x80:
		return 1
	case r < 0x800:
		return 2
	case r < 0x10000:
		return 3
	}
	return maxWide
}
