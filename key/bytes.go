package key

import (
	"slices"

	"lectern/utf"
)

// A key's numbers stand highest byte first, so that bytes compare as they do; none of them is 0, which is an end.
const (
	wideWeight = 2
	wideCode   = 3
)

// size is how many bytes a key has, of so many levels, with so many weights in all, and of so many code points.
func size(levels, weights, codes int) int {
	return wideWeight*(levels+weights) + wideCode*(codes+1)
}

// may tells whether there is a key of these at all, be it too long.
func may(levels [][]int, codes []rune) bool {
	if len(levels) != fewLevels && len(levels) != mostLevels {
		return false
	}
	for _, l := range levels {
		if slices.ContainsFunc(l, noWeight) {
			return false
		}
	}
	return !slices.ContainsFunc(codes, noScalar)
}

func noWeight(w int) bool  { return w < 1 || w > mostWeight }
func noScalar(r rune) bool { return !utf.Scalar(r) }

// written lays levels and code points behind out.
func written(out []byte, levels [][]int, codes []rune) []byte {
	for _, l := range levels {
		for _, w := range l {
			out = laid(out, w, wideWeight)
		}
		out = laid(out, 0, wideWeight)
	}
	for _, r := range codes {
		out = laid(out, int(r)+1, wideCode)
	}
	return laid(out, 0, wideCode)
}

// laid is out with n behind it, as so many bytes.
func laid(out []byte, n, wide int) []byte {
	for i := range wide {
		out = append(out, byte(n>>(8*(wide-1-i))))
	}
	return out
}

// parts are what a key is made of.
type parts struct {
	levels [][]int
	codes  []rune
}

// read takes apart what written makes, and throws where it can't.
func read(b []byte, levels int) parts {
	r := &reader{b}
	out := parts{levels: make([][]int, levels)}
	for i := range out.levels {
		out.levels[i] = r.upToNought(wideWeight)
	}
	for _, n := range r.upToNought(wideCode) {
		out.codes = append(out.codes, rune(n-1))
	}
	must(!slices.ContainsFunc(out.codes, noScalar))
	must(len(r.rest) == 0)
	out.codes = slices.Clip(out.codes)
	return out
}

// reader has the bytes that aren't read yet.
type reader struct{ rest []byte }

// next reads a number of so many bytes.
func (r *reader) next(wide int) int {
	must(len(r.rest) >= wide)
	n := 0
	for _, x := range r.rest[:wide] {
		n = n<<8 | int(x)
	}
	r.rest = r.rest[wide:]
	return n
}

// upToNought reads numbers, and the 0 behind them.
func (r *reader) upToNought(wide int) []int {
	var out []int
	for n := r.next(wide); n != 0; n = r.next(wide) {
		out = append(out, n)
	}
	return slices.Clip(out)
}
