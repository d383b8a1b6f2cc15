package weight_test

import (
	"fmt"
	"math"
	"slices"
	"sync"
	"testing"

	"lectern/api"
	"lectern/weight"
)

// whole is a range whose code points share a first primary, and split one whose don't.
func whole(from, to rune, base int) api.Implicit {
	return api.Implicit{From: from, To: to, Base: base, Whole: true}
}
func split(from, to rune, base int) api.Implicit { return api.Implicit{From: from, To: to, Base: base} }

// many are n ranges of one code point each.
func many(n int) []api.Implicit {
	l := make([]api.Implicit, n)
	for i := range l {
		l[i] = split(rune(i), rune(i), 0xfb40)
	}
	return l
}

// byRule are the elements with these two primaries.
func byRule(first, second int) []api.Element {
	return []api.Element{elem(first, 0x20, 2), elem(second, 0, 0)}
}

func wantByRule(t testing.TB, r rune, l []api.Implicit, want []api.Element) {
	t.Helper()
	if got := weight.Implicit(r, l); !slices.Equal(got, want) {
		t.Errorf("Implicit of %x by %v: %v, want %v", r, l, got, want)
	}
}

// P7.3

func TestRanges(t *testing.T) {
	for _, l := range [][]api.Implicit{
		nil, {}, weight.Unified(), many(99), many(api.MaxRanges),
		{split(0, 0, 0xfb40)}, {split(0, 0x10ffff, 0xfb80)}, {split(0x10ffff, 0x10ffff, 0xfb40)},
		{whole(0, 0, 0xfb00)}, {whole(5, 5, 0xfb3f)}, {whole(0x10ffff, 0x10ffff, 0xfb20)},
		{whole(0, 0x7fff, 0xfb00)}, {whole(0x17000, 0x1efff, 0xfb00)}, {whole(0x108000, 0x10ffff, 0xfb3f)}, // the most that are Whole
		{split(0, 0x8000, 0xfb40)},                                       // of others there may be more
		{split(0xd800, 0xdfff, 0xfb40)}, {whole(0xd900, 0xda00, 0xfb01)}, // here surrogates are code points
		{split(1, 2, 0xfb40), split(3, 3, 0xfb40), whole(4, 9, 0xfb00), split(0x10fffe, 0x10ffff, 0xfb80)}, // one right behind the other
		{whole(1, 2, 0xfb00), whole(3, 4, 0xfb00)},                                                         // two of one base
	} {
		wantErr(t, fmt.Sprintf("%v", l), weight.Ranges(l), api.OK)
	}
}

func TestRangesThatMayNotBe(t *testing.T) {
	good := split(0x100, 0x1ff, 0xfb40)
	for _, l := range [][]api.Implicit{
		{{}},
		// ends that are none
		{split(-1, 5, 0xfb40)}, {split(math.MinInt32, 5, 0xfb40)}, {split(-2, -1, 0xfb40)}, {split(0, 0x110000, 0xfb40)}, {split(0x110000, 0x110000, 0xfb40)},
		{split(5, math.MaxInt32, 0xfb80)}, {whole(math.MinInt32, math.MaxInt32, 0xfb00)}, {whole(-1, 5, 0xfb00)}, {whole(0x10ffff, 0x110000, 0xfb00)},
		{whole(math.MaxInt32, math.MaxInt32, 0xfb00)}, {whole(math.MinInt32, math.MinInt32, 0xfb00)},
		// the wrong way round
		{split(6, 5, 0xfb40)}, {whole(6, 5, 0xfb00)}, {split(0x10ffff, 0, 0xfb40)}, {whole(5, -1, 0xfb00)},
		// not behind the one ahead
		{good, split(0x200, 0x300, 0xfb40), split(0x300, 0x301, 0xfb40)}, {good, good}, {good, split(0x1ff, 0x1ff, 0xfb40)}, {good, split(0, 0xff, 0xfb40)},
		{good, split(0, 0x10ffff, 0xfb40)}, {good, whole(0x180, 0x190, 0xfb00)}, {split(0, 0x10ffff, 0xfb40), split(0x10ffff, 0x10ffff, 0xfb40)},
		{split(0, 0, 0xfb40), split(0, 0, 0xfb40)}, {good, split(0x300, 0x400, 0xfb40), split(0x250, 0x260, 0xfb40)},
		// a base that may not be
		{split(1, 2, 0)}, {split(1, 2, 0xfb00)}, {split(1, 2, 0xfb3f)}, {split(1, 2, 0xfb41)}, {split(1, 2, 0xfb7f)}, {split(1, 2, 0xfb81)},
		{split(1, 2, 0xfbbf)}, {split(1, 2, 0xfbc0)}, {split(1, 2, -0xfb40)}, {split(1, 2, 0x1fb40)}, {split(1, 2, math.MinInt)}, {split(1, 2, math.MaxInt)},
		{whole(1, 2, 0)}, {whole(1, 2, 0xfaff)}, {whole(1, 2, 0xfb40)}, {whole(1, 2, 0xfb80)}, {whole(1, 2, 0xfbbf)}, {whole(1, 2, 0xfbc0)},
		{whole(1, 2, 0x1fb00)}, {whole(1, 2, math.MinInt)}, {whole(1, 2, math.MaxInt)},
		// too many that are Whole
		{whole(0, 0x8000, 0xfb00)}, {whole(0x17000, 0x1f000, 0xfb00)}, {whole(0, 0x10ffff, 0xfb00)}, {whole(0x107fff, 0x10ffff, 0xfb3f)},
		// behind others that may be
		{good, split(0x200, 0x300, 0xfb00)}, {good, whole(0x200, 0x300, 0xfb40)}, {good, whole(0x200, 0x8200, 0xfb00)}, {good, split(0x200, 0x110000, 0xfb40)},
		// at the greatest length that isn't too long
		append(many(api.MaxRanges-1), split(5, 5, 0xfb40)), append([]api.Implicit{split(200, 200, 0xfb40)}, many(api.MaxRanges-1)...),
	} {
		wantErr(t, fmt.Sprintf("%v", l), weight.Ranges(l), api.ErrImpl)
	}
}

func TestTooManyRanges(t *testing.T) {
	wrong := append([]api.Implicit{split(-1, -2, 0)}, many(api.MaxRanges)...)
	for _, l := range [][]api.Implicit{many(api.MaxRanges + 1), many(5000), wrong, append(many(api.MaxRanges), api.Implicit{})} {
		wantErr(t, fmt.Sprintf("%d ranges", len(l)), weight.Ranges(l), api.ErrLong)
	}
}

// P7.4

func TestImplicit(t *testing.T) {
	all := []api.Implicit{split(0x10, 0x1f, 0xfb40), whole(0x20, 0x801f, 0xfb05), split(0xd800, 0xdfff, 0xfb80), split(0x100000, 0x10ffff, 0xfb80)}
	for _, c := range []struct {
		r             rune
		l             []api.Implicit
		first, second int
	}{
		// in no range
		{0, nil, 0xfbc0, 0x8000}, {0x61, nil, 0xfbc0, 0x8061}, {0x7fff, nil, 0xfbc0, 0xffff}, {0x8000, nil, 0xfbc1, 0x8000}, {0xe000, nil, 0xfbc1, 0xe000},
		{0xffff, nil, 0xfbc1, 0xffff}, {0x10000, nil, 0xfbc2, 0x8000}, {0x10ffff, nil, 0xfbe1, 0xffff}, {0xd800, nil, 0xfbc1, 0xd800}, {0xdfff, nil, 0xfbc1, 0xdfff},
		{0x4e00, nil, 0xfbc0, 0xce00}, {0x17000, nil, 0xfbc2, 0xf000},
		// in the unified ones, and around
		{0xe000, weight.Unified(), 0xfbc1, 0xe000}, {0x33ff, weight.Unified(), 0xfbc0, 0xb3ff}, {0x3400, weight.Unified(), 0xfb80, 0xb400},
		{0x4db5, weight.Unified(), 0xfb80, 0xcdb5}, {0x4db6, weight.Unified(), 0xfbc0, 0xcdb6}, {0x4dff, weight.Unified(), 0xfbc0, 0xcdff},
		{0x4e00, weight.Unified(), 0xfb40, 0xce00}, {0x7fff, weight.Unified(), 0xfb40, 0xffff}, {0x8000, weight.Unified(), 0xfb41, 0x8000},
		{0x9fd5, weight.Unified(), 0xfb41, 0x9fd5}, {0x9fd6, weight.Unified(), 0xfbc1, 0x9fd6}, {0x16fff, weight.Unified(), 0xfbc2, 0xefff},
		{0x17000, weight.Unified(), 0xfb00, 0x8000}, {0x17001, weight.Unified(), 0xfb00, 0x8001}, {0x187ec, weight.Unified(), 0xfb00, 0x97ec},
		{0x187ed, weight.Unified(), 0xfbc3, 0x87ed}, {0x1ffff, weight.Unified(), 0xfbc3, 0xffff}, {0x20000, weight.Unified(), 0xfb84, 0x8000},
		{0x2a6d6, weight.Unified(), 0xfb85, 0xa6d6}, {0x2a6d7, weight.Unified(), 0xfbc5, 0xa6d7}, {0x10ffff, weight.Unified(), 0xfbe1, 0xffff},
		// in others
		{0xf, all, 0xfbc0, 0x800f}, {0x10, all, 0xfb40, 0x8010}, {0x1f, all, 0xfb40, 0x801f}, {0x20, all, 0xfb05, 0x8000}, {0x801f, all, 0xfb05, 0xffff},
		{0x8020, all, 0xfbc1, 0x8020}, {0xd800, all, 0xfb81, 0xd800}, {0xdfff, all, 0xfb81, 0xdfff}, {0x10ffff, all, 0xfba1, 0xffff}, {0x100000, all, 0xfba0, 0x8000},
		// each range that is Whole counts from its own first one
		{1, []api.Implicit{whole(1, 2, 0xfb00), whole(3, 4, 0xfb00)}, 0xfb00, 0x8000}, {4, []api.Implicit{whole(1, 2, 0xfb00), whole(3, 4, 0xfb00)}, 0xfb00, 0x8001},
		{0x10ffff, []api.Implicit{whole(0x108000, 0x10ffff, 0xfb3f)}, 0xfb3f, 0xffff},
	} {
		wantErr(t, "ranges", weight.Ranges(c.l), api.OK)
		wantByRule(t, c.r, c.l, byRule(c.first, c.second))
	}
}

func TestImplicitByRangesThatMayNotBe(t *testing.T) {
	twice := []api.Implicit{split(9, 3, 0xfb40), whole(0x20, 0x30, 7), split(0x25, 0x35, 0xfb80), split(0x20, 0x40, 0xfb40)}
	for _, c := range []struct {
		r             rune
		l             []api.Implicit
		first, second int
	}{
		// the first one that holds it, whatever the order; none holds anything that is the wrong way round
		{0x20, twice, 7, 0x8000}, {0x25, twice, 7, 0x8005}, {0x31, twice, 0xfb80, 0x8031}, {0x36, twice, 0xfb40, 0x8036}, {0x41, twice, 0xfbc0, 0x8041},
		{3, twice, 0xfbc0, 0x8003}, {5, twice, 0xfbc0, 0x8005}, {9, twice, 0xfbc0, 0x8009},
		// more of them than may be
		{105, append(many(100), split(0, 200, 0xfb80)), 0xfb80, 0x8069}, {150, many(200), 0xfb40, 0x8096}, {99, many(200), 0xfb40, 0x8063},
		// any bases
		{0x8005, []api.Implicit{split(0, 0x10ffff, 0)}, 1, 0x8005}, {0x8005, []api.Implicit{split(0, 0x10ffff, -1)}, 0, 0x8005},
		{0x8005, []api.Implicit{split(0, 0x10ffff, math.MinInt)}, math.MinInt + 1, 0x8005}, {0x8005, []api.Implicit{split(0, 0x10ffff, math.MaxInt)}, math.MinInt, 0x8005},
		{5, []api.Implicit{whole(5, 5, math.MaxInt)}, math.MaxInt, 0x8000}, {5, []api.Implicit{whole(5, 5, math.MinInt)}, math.MinInt, 0x8000},
		{5, []api.Implicit{whole(5, 5, 0xfb40)}, 0xfb40, 0x8000}, {5, []api.Implicit{split(5, 5, 0xfb00)}, 0xfb00, 0x8005},
		// places of more than 15 bits
		{0x7fff, []api.Implicit{whole(0, 0x10ffff, 1)}, 1, 0xffff}, {0x8000, []api.Implicit{whole(0, 0x10ffff, 1)}, 1, 0x8000},
		{0x8001, []api.Implicit{whole(0, 0x10ffff, 1)}, 1, 0x8001}, {0x12345, []api.Implicit{whole(0, 0x10ffff, 1)}, 1, 0x1a345},
		{0x10ffff, []api.Implicit{whole(0, 0x10ffff, 1)}, 1, 0x10ffff}, {0, []api.Implicit{whole(-5, 5, 1)}, 1, 0x8005}, {5, []api.Implicit{whole(-0x20000, 5, 1)}, 1, 0x28005},
		// places that wrap
		{0, []api.Implicit{whole(-math.MaxInt32, math.MaxInt32, 1)}, 1, math.MaxInt32}, {0, []api.Implicit{whole(math.MinInt32, 0, 1)}, 1, math.MinInt32 + 0x8000},
		{5, []api.Implicit{whole(math.MinInt32, math.MaxInt32, 1)}, 1, math.MinInt32 + 0x8005},
		{0x10ffff, []api.Implicit{whole(math.MinInt32, math.MaxInt32, 1)}, 1, math.MinInt32 + 0x10ffff},
		{0x1000, []api.Implicit{whole(-0x7ffff001, 0x1000, 1)}, 1, math.MinInt32 + 0x8001}, {0xfff, []api.Implicit{whole(-0x7ffff001, 0x1000, 1)}, 1, math.MinInt32 + 0x8000},
		{0xffe, []api.Implicit{whole(-0x7ffff001, 0x1000, 1)}, 1, math.MaxInt32},
	} {
		wantByRule(t, c.r, c.l, byRule(c.first, c.second))
	}
}

func TestImplicitOfNoCodePoints(t *testing.T) {
	for _, r := range []rune{-1, -2, math.MinInt32, 0x110000, 0x110001, math.MaxInt32} {
		for _, l := range [][]api.Implicit{nil, weight.Unified(), {whole(math.MinInt32, math.MaxInt32, 0xfb00)}, {split(math.MinInt32, math.MaxInt32, 0xfb40)}} {
			wantByRule(t, r, l, nil)
		}
	}
}

// P7.5

func TestUnified(t *testing.T) {
	l := weight.Unified()
	wantErr(t, "Unified", weight.Ranges(l), api.OK)
	if !slices.Equal(l, []api.Implicit{
		{From: 0x3400, To: 0x4db5, Base: 0xfb80}, {From: 0x4e00, To: 0x9fd5, Base: 0xfb40},
		{From: 0x17000, To: 0x187ec, Base: 0xfb00, Whole: true}, {From: 0x20000, To: 0x2a6d6, Base: 0xfb80},
	}) {
		t.Errorf("Unified: %v", l)
	}
}

// P2 of the whole: nothing is shared, nothing that is given is changed, nothing behind an end is read or handed out.

func TestAnswersShareNothing(t *testing.T) {
	for _, l := range [][]api.Implicit{nil, weight.Unified()} {
		for _, r := range []rune{0x61, 0x4e00, 0x17005} {
			was := slices.Clone(weight.Implicit(r, l))
			got := weight.Implicit(r, l)
			want(t, "room behind the end", cap(got), len(got))
			clear(got)
			wantByRule(t, r, l, was)
		}
	}
	l := weight.Unified()
	want(t, "room behind the end", cap(l), len(l))
	clear(l)
	TestUnified(t)
	wantByRule(t, 0x4e00, weight.Unified(), byRule(0xfb40, 0xce00))
}

func TestWhatIsGivenStays(t *testing.T) {
	was := weight.Unified()
	for _, behind := range []api.Implicit{split(0x61, 0x61, 0xfb40), whole(-1, math.MaxInt32, 5), {}} { // what lies there would count, or be refused
		l := append(weight.Unified(), behind)
		wantErr(t, "Ranges", weight.Ranges(l[:4]), api.OK)
		wantByRule(t, 0x61, l[:4], byRule(0xfbc0, 0x8061))
		wantByRule(t, 0x17005, l[:4], byRule(0xfb00, 0x8005))
		if !slices.Equal(l[:4], was) || l[4] != behind {
			t.Errorf("the list that was given: %v", l)
		}
	}
	full := append(many(api.MaxRanges), split(500, 500, 0xfb40))
	wantErr(t, "Ranges", weight.Ranges(full[:api.MaxRanges]), api.OK)
}

func TestManyAskAtOnce(t *testing.T) {
	l := weight.Unified()
	var all sync.WaitGroup
	for range 16 {
		all.Go(func() {
			wantErr(t, "Ranges", weight.Ranges(l), api.OK)
			wantByRule(t, 0x17005, l, byRule(0xfb00, 0x8005))
			wantRead(t, "[.1C47.0020.0002]", elem(0x1c47, 0x20, 2), 17, api.OK)
		})
	}
	all.Wait()
}
