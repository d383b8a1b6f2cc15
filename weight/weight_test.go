package weight_test

import (
	"math"
	"testing"

	"lectern/api"
	"lectern/weight"
)

func wantErr(t testing.TB, what string, got, want api.Errno) {
	t.Helper()
	if got != want {
		t.Errorf("%s: error %d, want %d", what, got, want)
	}
}

func want[T comparable](t testing.TB, what string, got, want T) {
	t.Helper()
	if got != want {
		t.Errorf("%s: %v, want %v", what, got, want)
	}
}

// elem is an element that isn't variable, and varied one that is.
func elem(p, s, t int) api.Element   { return api.Element{P: p, S: s, T: t} }
func varied(p, s, t int) api.Element { return api.Element{P: p, S: s, T: t, Var: true} }

// P7.1

func TestCheck(t *testing.T) {
	for _, e := range []api.Element{
		{}, elem(0, 0, 1), elem(0, 0, 0x3f), elem(0, 1, 1), elem(0, 0x1ff, 0x3f), elem(0, 0x24, 2), elem(1, 1, 1), elem(0x1c47, 0x20, 2),
		elem(0xfaff, 0x1ff, 0x3f), elem(1, 0x1ff, 1), elem(1, 1, 0x3f), elem(0xfaff, 1, 1), varied(1, 1, 1), varied(0x201, 0x20, 2), varied(0xfaff, 0x1ff, 0x3f),
	} {
		wantErr(t, show(e), weight.Check(e), api.OK)
	}
}

func TestCheckOfWrongWeights(t *testing.T) {
	for _, e := range []api.Element{
		// below 0 or too great
		elem(-1, 1, 1), elem(1, -1, 1), elem(1, 1, -1), elem(0, -1, 1), elem(0, 0, -1), elem(0, 1, -1), elem(math.MinInt, 1, 1), elem(1, math.MinInt, 1),
		elem(1, 1, math.MinInt), elem(0xffff, 1, 1), elem(0x10000, 1, 1), elem(1, 0x200, 1), elem(1, 1, 0x40), elem(0, 0x200, 1), elem(0, 1, 0x40),
		elem(0, 0, 0x40), elem(math.MaxInt, 1, 1), elem(1, math.MaxInt, 1), elem(1, 1, math.MaxInt),
		// a lesser level without a weight
		elem(1, 0, 0), elem(1, 0, 1), elem(1, 1, 0), elem(0, 1, 0), elem(0xfaff, 0, 0x3f), elem(0xfaff, 0x1ff, 0),
		// variable without a primary
		varied(0, 0, 0), varied(0, 0, 1), varied(0, 1, 1), varied(0, 1, 0), varied(0, 0x1ff, 0x3f),
		// primaries of rules
		elem(0xfb00, 0x20, 2), elem(0xfb40, 0x20, 2), elem(0xfbc0, 0x20, 2), elem(0xfffe, 0x20, 2), varied(0xfb00, 0x20, 2), varied(0xffff, 0x20, 2),
		elem(0x8000, 0, 0), elem(0xce00, 0, 0), // of which no level is below the first
		// variable and wrong otherwise
		varied(1, 0, 1), varied(1, 1, 0), varied(-1, 1, 1), varied(1, 0x200, 1), varied(1, 1, 0x40),
	} {
		wantErr(t, show(e), weight.Check(e), api.ErrWeight)
	}
}

// P7.2

func TestLevel(t *testing.T) {
	for _, c := range []struct {
		p, s, t, want int
	}{
		{0, 0, 0, 0}, {0, 0, 1, 3}, {0, 0, 0x3f, 3}, {0, 1, 0, 2}, {0, 1, 1, 2}, {0, 0x1ff, 2, 2}, {1, 0, 0, 1}, {1, 0, 1, 1}, {1, 1, 0, 1}, {1, 1, 1, 1},
		{0x1c47, 0x20, 2, 1}, {0xffff, 0x20, 2, 1}, {0xfb40, 0x20, 2, 1}, {0xce00, 0, 0, 1},
		// whatever isn't 0, also where Check refuses it
		{-1, 0, 0, 1}, {math.MinInt, 1, 1, 1}, {math.MaxInt, 0, 0, 1}, {0, -1, 0, 2}, {0, math.MaxInt, 5, 2}, {0, 0, -1, 3}, {0, 0, math.MinInt, 3},
		{1 << 32, 0, 0, 1}, {0, 1 << 32, 0, 2}, {0, 0, 1 << 32, 3},
	} {
		want(t, "Level of "+show(elem(c.p, c.s, c.t)), weight.Level(elem(c.p, c.s, c.t)), c.want)
		want(t, "Level of "+show(varied(c.p, c.s, c.t)), weight.Level(varied(c.p, c.s, c.t)), c.want)
	}
}

// P7.7

func TestCompare(t *testing.T) {
	for _, c := range []struct {
		a, b api.Element
		want int
	}{
		{elem(0, 0, 0), elem(0, 0, 0), 0},
		{elem(0x1c47, 0x20, 2), elem(0x1c47, 0x20, 2), 0},
		{elem(0x1c47, 0x20, 2), elem(0x1c48, 0x20, 2), -1},
		{elem(0x1c47, 0x1ff, 0x3f), elem(0x1c48, 0, 0), -1},
		{elem(0x1c47, 0x20, 2), elem(0x1c47, 0x21, 2), -1},
		{elem(0x1c47, 0x20, 0x3f), elem(0x1c47, 0x21, 0), -1},
		{elem(0x1c47, 0x20, 2), elem(0x1c47, 0x20, 8), -1},
		{elem(0, 0, 0), elem(0, 0, 1), -1},
		{elem(0, 0, 0x3f), elem(0, 1, 0), -1},
		{elem(0, 0x1ff, 0x3f), elem(1, 0, 0), -1},
		{elem(9, 0, 0), elem(0x10, 0, 0), -1},
		// any weights, also such as may not be
		{elem(-1, 5, 5), elem(0, 0, 0), -1},
		{elem(0, -1, 5), elem(0, 0, 0), -1},
		{elem(0, 0, -1), elem(0, 0, 0), -1},
		{elem(math.MinInt, 0, 0), elem(math.MaxInt, 0, 0), -1},
		{elem(0, math.MinInt, 0), elem(0, math.MaxInt, 0), -1},
		{elem(0, 0, math.MinInt), elem(0, 0, math.MaxInt), -1},
		{elem(0xffff, 0, 0), elem(0x10000, 0, 0), -1},
		{elem(math.MaxInt, math.MinInt, 1), elem(math.MaxInt, math.MinInt, 1), 0},
	} {
		for _, v := range [][2]bool{{false, false}, {false, true}, {true, false}, {true, true}} { // Var doesn't count
			c.a.Var, c.b.Var = v[0], v[1]
			want(t, "Compare of "+show(c.a)+" and "+show(c.b), weight.Compare(c.a, c.b), c.want)
			want(t, "Compare of "+show(c.b)+" and "+show(c.a), weight.Compare(c.b, c.a), -c.want)
		}
	}
}
