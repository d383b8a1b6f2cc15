package norm_test

import (
	"math"
	"slices"
	"testing"

	"lectern/api"
	"lectern/norm"
	"lectern/norms"
)

// wantStream fails if what a stream tells of l, and at its end, isn't whole.
func wantStream(t testing.TB, n *norms.Norms, l, whole []rune) {
	t.Helper()
	s := norm.New(n)
	var got []rune
	for _, r := range l {
		out, e := s.Push(r)
		wantErr(t, "Push", e, api.OK)
		got = append(got, out...)
	}
	got = append(got, s.End()...)
	if !slices.Equal(got, whole) {
		t.Errorf("a stream of %x: %x, want %x", l, got, whole)
	}
	want(t, "Held at the end", s.Held(), 0)
}

// pushes are what is pushed, with what is told and how many are held then.
type pushes []struct {
	r    rune
	told []rune
	held int
}

func wantPushes(t *testing.T, s *norm.Stream, l pushes) {
	t.Helper()
	for _, p := range l {
		told, e := s.Push(p.r)
		wantErr(t, "Push "+hex([]rune{p.r}), e, api.OK)
		wantRunes(t, "Push "+hex([]rune{p.r}), told, p.told)
		want(t, "Held behind "+hex([]rune{p.r}), s.Held(), p.held)
	}
}

// P6.5

func TestStream(t *testing.T) {
	s := norm.New(small(t))
	want(t, "Held", s.Held(), 0)
	wantPushes(t, s, pushes{{0x61, nil, 1}, {0x302, nil, 2}, {0x323, nil, 3}, {0x62, []rune{0x61, 0x323, 0x302}, 1}})
	wantRunes(t, "End", s.End(), []rune{0x62})
	want(t, "Held", s.Held(), 0)
}

func TestPush(t *testing.T) {
	for what, c := range map[string]struct {
		l   pushes
		end []rune
	}{
		"nothing":          {nil, nil},
		"marks ahead":      {pushes{{0x302, nil, 1}, {0x323, nil, 2}, {'a', []rune{0x323, 0x302}, 1}, {0x301, nil, 2}}, []rune{'a', 0x301}},
		"marks alone":      {pushes{{0x302, nil, 1}, {0x325, nil, 2}, {0x301, nil, 3}, {0x324, nil, 4}}, []rune{0x325, 0x324, 0x302, 0x301}},
		"letters":          {pushes{{'b', nil, 1}, {'a', []rune{'b'}, 1}, {0, []rune{'a'}, 1}}, []rune{0}},
		"by decomposing":   {pushes{{0x1ead, nil, 3}, {0x338, nil, 4}, {0xe2, []rune{0x61, 0x338, 0x323, 0x302}, 2}}, []rune{0x61, 0x302}},
		"several of one":   {pushes{{'a', nil, 1}, {0x302, nil, 2}, {0x323, nil, 3}, {0xac01, []rune{'a', 0x323, 0x302, 0x1100, 0x1161}, 1}, {0x301, nil, 2}}, []rune{0x11a8, 0x301}},
		"of one, first":    {pushes{{0xac01, []rune{0x1100, 0x1161}, 1}, {0xac00, []rune{0x11a8, 0x1100}, 1}}, []rune{0x1161}},
		"marks of one":     {pushes{{'a', nil, 1}, {0x344, nil, 3}, {0x323, nil, 4}, {0x2126, []rune{'a', 0x323, 0x308, 0x301}, 1}}, []rune{0x3a9}},
		"the greatest one": {pushes{{0x10ffff, nil, 1}, {0xe000, []rune{0x10ffff}, 1}, {0xd7ff, []rune{0xe000}, 1}}, []rune{0xd7ff}},
	} {
		t.Run(what, func(t *testing.T) {
			s := norm.New(small(t))
			for range 2 { // behind End it is as if nothing was pushed
				wantPushes(t, s, c.l)
				wantRunes(t, "End", s.End(), c.end)
				wantRunes(t, "End again", s.End(), nil)
				want(t, "Held", s.Held(), 0)
			}
		})
	}
}

func TestPushOfNoScalars(t *testing.T) {
	for _, n := range append(notMade(), small(t)) {
		s := norm.New(n)
		for held, l := range [][]rune{{}, {'a'}} {
			for _, r := range l {
				s.Push(r)
			}
			for _, r := range []rune{-1, math.MinInt32, 0xd800, 0xdfff, 0x110000, math.MaxInt32} {
				out, e := s.Push(r)
				wantErr(t, "Push", e, api.ErrRune)
				wantRunes(t, "Push", out, nil)
				want(t, "Held", s.Held(), held) // nothing has changed
			}
		}
		wantRunes(t, "End", s.End(), []rune{'a'})
	}
}

func TestStreamsThatNobodyMade(t *testing.T) {
	for _, s := range []*norm.Stream{nil, {}, new(norm.Stream)} {
		for _, r := range []rune{'a', 0x301, 0x1ead, 0xac01, 0xd800, -1} {
			out, e := s.Push(r)
			wantErr(t, "Push", e, api.ErrStream)
			wantRunes(t, "Push", out, nil)
			want(t, "Held", s.Held(), 0)
			wantRunes(t, "End", s.End(), nil)
		}
	}
}

func TestStreamSharesNothing(t *testing.T) {
	n := small(t)
	s, other := norm.New(n), norm.New(n)
	wantPushes(t, s, pushes{{'a', nil, 1}, {0x301, nil, 2}})
	wantPushes(t, other, pushes{{'c', nil, 1}})
	first, _ := s.Push('b')
	clear(first)
	wantPushes(t, s, pushes{{0x302, nil, 2}, {0x323, nil, 3}})
	last := s.End()
	wantRunes(t, "End", last, []rune{'b', 0x323, 0x302})
	wantPushes(t, s, pushes{{'x', nil, 1}, {'y', []rune{'x'}, 1}})
	wantRunes(t, "what End told", last, []rune{'b', 0x323, 0x302})
	clear(last)
	wantRunes(t, "End", s.End(), []rune{'y'})
	wantRunes(t, "End of the other one", other.End(), []rune{'c'})
}

// Many marks are held, and put in order at once.
func TestStreamOfManyMarks(t *testing.T) {
	s := norm.New(small(t))
	const long = 100_000
	for i := range long {
		out, e := s.Push([]rune{0x301, 0x323}[i%2])
		if e != api.OK || len(out) > 0 || s.Held() != i+1 {
			t.Fatalf("Push %d: %x, error %d, %d held", i, out, e, s.Held())
		}
	}
	out, _ := s.Push('a')
	if !slices.Equal(out, slices.Concat(slices.Repeat([]rune{0x323}, long/2), slices.Repeat([]rune{0x301}, long/2))) {
		t.Error("many marks aren't in order")
	}
	wantRunes(t, "End", s.End(), []rune{'a'})
}
