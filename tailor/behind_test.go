package tailor_test

import (
	"math"
	"slices"
	"testing"

	"lectern/api"
	"lectern/tailor"
	"lectern/weight"
)

// P10.3

// wantBehind holds Behind against the elements and, entry by entry, those of the table.
func wantBehind(t testing.TB, s api.Source, e []api.Element, level int, next []api.Element, entries ...[]api.Element) {
	t.Helper()
	was, asked := cloned(s), slices.Clone(e)
	got, l, err := tailor.Behind(s, e, level)
	wantErr(t, "Behind", err, api.OK)
	wantList(t, "Behind", l, next)
	whole := cloned(s)
	for i, x := range entries {
		whole.Entries[i].Elements = x
	}
	if !sameSource(got, whole) || len(entries) != len(s.Entries) {
		t.Errorf("Behind %s, level %d: %s; want %s", showElements(e), level, showSource(got), showSource(whole))
	}
	want(t, "what was given", sameSource(s, was), true)
	wantList(t, "what was given", e, asked)
}

func wantNoneBehind(t testing.TB, s api.Source, e []api.Element, level int, err api.Errno) {
	t.Helper()
	was := cloned(s)
	got, next, x := tailor.Behind(s, e, level)
	if x != err || next != nil || !sameSource(got, api.Source{}) {
		t.Errorf("Behind %v, level %d: %s, %v, error %d; want error %d", e, level, showSource(got), next, x, err)
	}
	want(t, "what was given", sameSource(s, was), true)
}

// tableOf has an entry for each list of elements.
func tableOf(l ...[]api.Element) api.Source {
	var out []api.Entry
	for i, x := range l {
		out = append(out, entry(string(rune('a'+i)), x...))
	}
	return source(out...)
}

type elements = []api.Element

func TestBehindOfLevel1(t *testing.T) {
	s := tableOf(elements{elem(0x10, 0x20, 2)}, elements{elem(0x11, 0x20, 2), varied(0x11, 0x21, 3), elem(0, 0x30, 2)}, elements{varied(9, 5, 5), elem(0x30, 1, 1), elem(0, 0, 7)}, nil, elements{elem(0x10, 0x21, 3)})
	wantBehind(t, s, elements{elem(0x10, 0x20, 2)}, 1, elements{elem(0x11, 0x20, 2)},
		elements{elem(0x10, 0x20, 2)}, elements{elem(0x12, 0x20, 2), varied(0x12, 0x21, 3), elem(0, 0x30, 2)}, elements{varied(9, 5, 5), elem(0x31, 1, 1), elem(0, 0, 7)}, nil, elements{elem(0x10, 0x21, 3)})
	// The lesser weights are new ones; whether it is variable stays.
	wantBehind(t, s, elements{elem(0x30, 1, 1)}, 1, elements{elem(0x31, 0x20, 2)}, s.Entries[0].Elements, s.Entries[1].Elements, s.Entries[2].Elements, nil, s.Entries[4].Elements)
	wantBehind(t, s, elements{varied(0x11, 0x21, 3)}, 1, elements{varied(0x12, 0x20, 2)},
		s.Entries[0].Elements, s.Entries[1].Elements, elements{varied(9, 5, 5), elem(0x31, 1, 1), elem(0, 0, 7)}, nil, s.Entries[4].Elements)
	// What is behind everything moves nothing; what is ahead of everything, each.
	wantBehind(t, s, elements{elem(0x1000, 9, 9)}, 1, elements{elem(0x1001, 0x20, 2)}, s.Entries[0].Elements, s.Entries[1].Elements, s.Entries[2].Elements, nil, s.Entries[4].Elements)
	wantBehind(t, s, elements{elem(1, 9, 9)}, 1, elements{elem(2, 0x20, 2)},
		elements{elem(0x11, 0x20, 2)}, elements{elem(0x12, 0x20, 2), varied(0x12, 0x21, 3), elem(0, 0x30, 2)}, elements{varied(10, 5, 5), elem(0x31, 1, 1), elem(0, 0, 7)}, nil, elements{elem(0x11, 0x21, 3)})
}

func TestBehindOfLevel2(t *testing.T) {
	s := tableOf(elements{elem(0x10, 0x20, 2)}, elements{elem(0x10, 0x21, 5), elem(0x11, 0x21, 2), varied(0x10, 0x40, 1)}, elements{elem(0, 0x21, 2), elem(0, 0x24, 3), elem(0, 0, 9)}, elements{elem(0x10, 0x1f, 1)})
	wantBehind(t, s, elements{elem(0x10, 0x20, 7)}, 2, elements{elem(0x10, 0x21, 2)},
		elements{elem(0x10, 0x20, 2)}, elements{elem(0x10, 0x22, 5), elem(0x11, 0x21, 2), varied(0x10, 0x41, 1)}, s.Entries[2].Elements, s.Entries[3].Elements)
	wantBehind(t, s, elements{varied(0x11, 0x20, 7)}, 2, elements{varied(0x11, 0x21, 2)},
		s.Entries[0].Elements, elements{elem(0x10, 0x21, 5), elem(0x11, 0x22, 2), varied(0x10, 0x40, 1)}, s.Entries[2].Elements, s.Entries[3].Elements)
	wantBehind(t, s, elements{elem(0, 0x21, 2)}, 2, elements{elem(0, 0x22, 2)},
		s.Entries[0].Elements, s.Entries[1].Elements, elements{elem(0, 0x21, 2), elem(0, 0x25, 3), elem(0, 0, 9)}, s.Entries[3].Elements)
	wantBehind(t, s, elements{elem(0x10, 0x41, 7)}, 2, elements{elem(0x10, 0x42, 2)}, s.Entries[0].Elements, s.Entries[1].Elements, s.Entries[2].Elements, s.Entries[3].Elements)
}

func TestBehindOfLevel3(t *testing.T) {
	s := tableOf(elements{elem(0x10, 0x20, 2), elem(0x10, 0x20, 3)}, elements{varied(0x10, 0x20, 8), elem(0x10, 0x21, 8), elem(0x11, 0x20, 8)}, elements{elem(0, 0x20, 8), elem(0, 0, 8), elem(0, 0, 9)})
	wantBehind(t, s, elements{elem(0x10, 0x20, 2)}, 3, elements{elem(0x10, 0x20, 3)},
		elements{elem(0x10, 0x20, 2), elem(0x10, 0x20, 4)}, elements{varied(0x10, 0x20, 9), elem(0x10, 0x21, 8), elem(0x11, 0x20, 8)}, s.Entries[2].Elements)
	wantBehind(t, s, elements{elem(0, 0x20, 7)}, 3, elements{elem(0, 0x20, 8)},
		s.Entries[0].Elements, s.Entries[1].Elements, elements{elem(0, 0x20, 9), elem(0, 0, 8), elem(0, 0, 9)})
	wantBehind(t, s, elements{elem(0, 0, 8)}, 3, elements{elem(0, 0, 9)},
		s.Entries[0].Elements, s.Entries[1].Elements, elements{elem(0, 0x20, 8), elem(0, 0, 8), elem(0, 0, 10)})
	wantBehind(t, s, elements{varied(0x11, 0x20, 7)}, 3, elements{varied(0x11, 0x20, 8)},
		s.Entries[0].Elements, elements{varied(0x10, 0x20, 8), elem(0x10, 0x21, 8), elem(0x11, 0x20, 9)}, s.Entries[2].Elements)
}

// The last element of the level or a lower one counts: what stands behind it is left out, what stands ahead of it stays, but has to make
// room like the table's elements.
func TestBehindOfManyElements(t *testing.T) {
	one, two, three := elem(0x10, 0x20, 2), elem(0, 0x30, 3), elem(0, 0, 4)
	for _, x := range []struct {
		of     elements
		behind [3]elements // by its level less 1
	}{
		{elements{one, {}, {}}, [3]elements{{elem(0x11, 0x20, 2)}, {elem(0x10, 0x21, 2)}, {elem(0x10, 0x20, 3)}}},
		{elements{one, two}, [3]elements{{elem(0x11, 0x20, 2)}, {one, elem(0, 0x31, 2)}, {one, elem(0, 0x30, 4)}}},
		{elements{one, two, three, {}, {Var: true}}, [3]elements{{elem(0x11, 0x20, 2)}, {one, elem(0, 0x31, 2)}, {one, two, elem(0, 0, 5)}}},
		{elements{three, two, one, three}, [3]elements{{three, two, elem(0x11, 0x20, 2)}, {three, two, elem(0x10, 0x21, 2)}, {three, two, one, elem(0, 0, 5)}}},
		{elements{one, three, {}, one, two}, [3]elements{{one, three, {}, elem(0x11, 0x20, 2)}, {one, three, {}, one, elem(0, 0x31, 2)}, {one, three, {}, one, elem(0, 0x30, 4)}}},
	} {
		for i, next := range x.behind {
			wantBehind(t, tableOf(), x.of, i+1, next)
		}
	}
	s := tableOf()
	wantBehind(t, s, elements{elem(0x11, 1, 1), elem(0xfafe, 1, 1), elem(0xfb00, 1, 1), {}, elem(0x10, 1, 1), two}, 1, elements{elem(0x12, 1, 1), elem(0xfaff, 1, 1), elem(0xfb00, 1, 1), {}, elem(0x11, 0x20, 2)})
	wantBehind(t, s, elements{elem(5, 7, 1), elem(5, 6, 3), elem(6, 7, 1), elem(5, 5, 9), elem(0, 0, 3)}, 2, elements{elem(5, 8, 1), elem(5, 7, 3), elem(6, 7, 1), elem(5, 6, 2)})
	wantBehind(t, s, elements{elem(5, 7, 9), elem(5, 6, 9), varied(5, 7, 2), elem(5, 7, 1), {}}, 3, elements{elem(5, 7, 10), elem(5, 6, 9), varied(5, 7, 3), elem(5, 7, 2)})
}

func TestBehindNothing(t *testing.T) {
	s := small()
	a := s.Entries[2].Elements
	for _, level := range []int{1, 2, 3} {
		wantNoneBehind(t, s, nil, level, api.ErrReset)
		wantNoneBehind(t, s, elements{}, level, api.ErrReset)
		wantNoneBehind(t, s, elements{{}, {}}, level, api.ErrReset)
		wantNoneBehind(t, s, elements{{Var: true}}, level, api.ErrReset)
		for _, p := range []int{0xfb00, 0xfb01, 0xfbc0, 0xffff, 0x10000, math.MaxInt} {
			wantNoneBehind(t, s, elements{elem(0x510, 0x20, 2), elem(p, 0x20, 2)}, level, api.ErrReset)
			wantNoneBehind(t, s, elements{elem(p, 0, 0)}, level, api.ErrReset)
		}
	}
	wantNoneBehind(t, s, elements{elem(0, 0x20, 2), elem(0, 0, 2)}, 1, api.ErrReset)
	wantNoneBehind(t, s, elements{elem(0, 0, 2)}, 2, api.ErrReset)
	for _, level := range []int{0, 4, -1, 5, math.MinInt, math.MaxInt} {
		wantNoneBehind(t, s, a, level, api.ErrReset)
		wantNoneBehind(t, s, nil, level, api.ErrReset)
		wantNoneBehind(t, s, elements{elem(0xfaff, 0x1ff, 0x3f)}, level, api.ErrReset)
		wantNoneBehind(t, api.Source{}, nil, level, api.ErrReset)
	}
}

// An implicit weight's second element is of level 1, too.
func TestBehindWeightsByRule(t *testing.T) {
	s := tableOf(elements{elem(0xce01, 1, 1), elem(0xce00, 1, 1), elem(0xfb40, 1, 1)})
	e := weight.Implicit(0x4e00, s.Ranges)
	wantBehind(t, s, e, 1, elements{elem(0xfb40, 0x20, 2), elem(0xce01, 0x20, 2)}, elements{elem(0xce02, 1, 1), elem(0xce00, 1, 1), elem(0xfb40, 1, 1)})
	wantBehind(t, s, e, 2, elements{elem(0xfb40, 0x20, 2), elem(0xce00, 1, 2)}, elements{elem(0xce01, 1, 1), elem(0xce00, 2, 1), elem(0xfb40, 1, 1)})
	wantBehind(t, s, e, 3, elements{elem(0xfb40, 0x20, 2), elem(0xce00, 0, 1)}, elements{elem(0xce01, 1, 1), elem(0xce00, 1, 1), elem(0xfb40, 1, 1)})
	wantNoneBehind(t, s, weight.Implicit(0x7fff, s.Ranges), 1, api.ErrReset) // FFFF
	wantNoneBehind(t, s, weight.Implicit(0x7b00, s.Ranges), 3, api.ErrReset) // FB00
	wantNoneBehind(t, s, weight.Implicit(0x7aff, s.Ranges), 1, api.ErrRoom)  // FAFF
}

// Of the room: up to the greatest weight there may be, in the table, in what is asked for, and of the new one.
func TestRoom(t *testing.T) {
	for level, x := range map[int]struct{ low, last, most, above api.Element }{
		1: {elem(5, 6, 7), elem(0xfafe, 1, 1), elem(0xfaff, 0x20, 2), elem(0xfb00, 1, 1)},
		2: {elem(5, 6, 7), elem(5, 0x1fe, 1), elem(5, 0x1ff, 2), elem(5, 0x200, 1)},
		3: {elem(5, 6, 7), elem(5, 6, 0x3e), elem(5, 6, 0x3f), elem(5, 6, 0x40)},
	} {
		raised := x.last
		switch level {
		case 1:
			raised.P++
		case 2:
			raised.S++
		case 3:
			raised.T++
		}
		_, next, _ := tailor.Behind(tableOf(), elements{x.low}, level)
		wantBehind(t, tableOf(nil, elements{x.last}), elements{x.low}, level, next, nil, elements{raised})
		wantBehind(t, tableOf(elements{x.low, x.last}), elements{x.last}, level, elements{x.most}, elements{x.low, x.last})
		wantNoneBehind(t, tableOf(elements{x.low, x.most}), elements{x.last}, level, api.ErrRoom)
		wantBehind(t, tableOf(), elements{x.last, x.low}, level, elements{raised, next[0]})
		wantNoneBehind(t, tableOf(nil, elements{x.low, x.most}), elements{x.low}, level, api.ErrRoom)
		wantNoneBehind(t, tableOf(elements{x.most}, elements{x.low}), elements{x.low}, level, api.ErrRoom)
		wantNoneBehind(t, tableOf(), elements{x.most, x.low}, level, api.ErrRoom)
		wantNoneBehind(t, tableOf(), elements{x.most}, level, api.ErrRoom)
		wantNoneBehind(t, tableOf(elements{x.low}), elements{x.low, x.most}, level, api.ErrRoom)
		switch level {
		case 1: // a rule's, which stays
			wantBehind(t, tableOf(elements{x.above}), elements{x.low}, level, next, elements{x.above})
			wantBehind(t, tableOf(), elements{x.above, x.low}, level, elements{x.above, next[0]})
		default:
			wantNoneBehind(t, tableOf(elements{x.above}), elements{x.low}, level, api.ErrRoom)
			wantNoneBehind(t, tableOf(), elements{x.above, x.low}, level, api.ErrRoom)
			wantNoneBehind(t, tableOf(), elements{x.above}, level, api.ErrRoom)
		}
	}
	// Of other primaries, of other secondaries: they need no room.
	wantBehind(t, tableOf(elements{elem(6, 0x1ff, 9), elem(0, 0x1ff, 2)}), elements{elem(5, 6, 7)}, 2, elements{elem(5, 7, 2)}, elements{elem(6, 0x1ff, 9), elem(0, 0x1ff, 2)})
	wantBehind(t, tableOf(elements{elem(5, 7, 0x3f), elem(6, 6, 0x3f)}), elements{elem(5, 6, 7)}, 3, elements{elem(5, 6, 8)}, elements{elem(5, 7, 0x3f), elem(6, 6, 0x3f)})
	wantBehind(t, tableOf(elements{elem(0xfaff, 1, 1)}), elements{elem(5, 6, 7)}, 2, elements{elem(5, 7, 2)}, elements{elem(0xfaff, 1, 1)})
}

// Of weights that may not be nothing wraps, nothing panics, and their order stays as it is.
func TestBehindOfAnyNumbers(t *testing.T) {
	wantBehind(t, tableOf(elements{elem(-4, 0, 0), elem(-6, 0, 0), {}, elem(math.MinInt, 1, 1), elem(math.MaxInt, 1, 1)}), elements{elem(-5, -7, -9)}, 1, elements{elem(-4, 0x20, 2)},
		elements{elem(-3, 0, 0), elem(-6, 0, 0), elem(1, 0, 0), elem(math.MinInt, 1, 1), elem(math.MaxInt, 1, 1)})
	wantBehind(t, tableOf(elements{elem(-1, -1, 0), elem(0, -6, 0), elem(0, 0, 1)}), elements{elem(0, -7, -9)}, 2, elements{elem(0, -6, 2)}, elements{elem(-1, -1, 0), elem(0, -5, 0), elem(0, 1, 1)})
	wantBehind(t, tableOf(elements{elem(-1, -1, 0), elem(0, 0, 1)}), elements{elem(0, 0, -9), {}}, 3, elements{elem(0, 0, -8)}, elements{elem(-1, -1, 0), elem(0, 0, 2)})
	wantBehind(t, tableOf(), elements{elem(math.MinInt, math.MinInt, math.MinInt)}, 1, elements{elem(math.MinInt+1, 0x20, 2)})
	wantBehind(t, tableOf(), elements{elem(math.MinInt, math.MinInt, math.MinInt)}, 2, elements{elem(math.MinInt, math.MinInt+1, 2)})
	wantBehind(t, tableOf(), elements{elem(math.MinInt, math.MinInt, math.MinInt)}, 3, elements{elem(math.MinInt, math.MinInt, math.MinInt+1)})
	wantNoneBehind(t, tableOf(), elements{elem(5, math.MaxInt, 1)}, 2, api.ErrRoom)
	wantNoneBehind(t, tableOf(), elements{elem(5, 6, math.MaxInt)}, 3, api.ErrRoom)
	wantNoneBehind(t, tableOf(elements{elem(5, math.MaxInt, 1)}), elements{elem(5, 6, 7)}, 2, api.ErrRoom)
	wantNoneBehind(t, tableOf(elements{elem(5, 6, math.MaxInt)}), elements{elem(5, 6, 7)}, 3, api.ErrRoom)
	wantBehind(t, api.Source{}, elements{elem(5, 6, 7)}, 1, elements{elem(6, 0x20, 2)})
	wantBehind(t, tableOf(), elements{elem(5, math.MaxInt, math.MinInt)}, 1, elements{elem(6, 0x20, 2)})
}

// What is given may share memory with itself: each element is raised once all the same.
func TestBehindInWhatSharesItsElements(t *testing.T) {
	l := elements{elem(0x20, 1, 1), elem(0x10, 1, 1)}
	s := tableOf(l, l, l[1:], l[:1])
	raised := elements{elem(0x21, 1, 1), elem(0x10, 1, 1)}
	wantBehind(t, s, l, 1, elements{elem(0x21, 1, 1), elem(0x11, 0x20, 2)}, raised, raised, raised[1:], raised[:1])
	got, _, e := tailor.Apply(nil, s, rules(t, "&c<x&c=y"), "new")
	wantErr(t, "Apply", e, api.OK)
	want(t, "Apply", sameSource(got, api.Source{Version: "new", Ranges: s.Ranges, Entries: append(tableOf(raised, raised, raised[1:], raised[:1]).Entries, entry("x", elem(0x11, 0x20, 2)), entry("y", elem(0x10, 1, 1)))}), true)
	want(t, "what was given", showElements(l), "[.0020.0001.0001][.0010.0001.0001]")
}

func TestNoRoomIsLeftBehindTheEnd(t *testing.T) {
	for n := range 20 {
		e := slices.Repeat(elements{elem(5, 6, 7)}, n+1)
		for level := 1; level <= 3; level++ {
			_, next, _ := tailor.Behind(tableOf(), e, level)
			want(t, "elements", len(next), n+1)
			want(t, "room behind the elements", cap(next), n+1)
		}
	}
}

func TestBehindSharesNothing(t *testing.T) {
	s := small()
	s.Entries[2].Elements = append(s.Entries[2].Elements, elem(0x600, 1, 1))[:1]
	s.Entries[2].Codes = append(s.Entries[2].Codes, -1)[:1]
	s.Entries = append(s.Entries, entry("z", elem(0x7000, 1, 1)))[:len(s.Entries)]
	s.Ranges = append(s.Ranges, api.Implicit{From: 1})[:len(s.Ranges)]
	e := elements{elem(0x600, 1, 1), elem(0x510, 0x20, 2), elem(0, 0x20, 2), elem(0x700, 1, 1)}[:3]
	for range 2 {
		got, next, err := tailor.Behind(s, e, 1)
		wantErr(t, "Behind", err, api.OK)
		wantList(t, "Behind", next, elements{elem(0x601, 1, 1), elem(0x511, 0x20, 2)})
		want(t, "room behind the elements", cap(next), len(next))
		want(t, "room behind the entries", cap(got.Entries), len(got.Entries))
		want(t, "room behind the ranges", cap(got.Ranges), len(got.Ranges))
		want(t, "version", got.Version, "old")
		clear(next)
		clear(got.Ranges)
		for _, x := range got.Entries {
			want(t, "room behind the code points", cap(x.Codes), len(x.Codes))
			want(t, "room behind the elements", cap(x.Elements), len(x.Elements))
			clear(x.Codes)
			clear(x.Elements)
		}
		clear(got.Entries)
	}
	want(t, "what was given", sameSource(s, small()), true)
	wantList(t, "behind its elements", s.Entries[2].Elements[:2], elements{elem(0x510, 0x20, 2), elem(0x600, 1, 1)})
	wantList(t, "behind its code points", s.Entries[2].Codes[:2], []rune{'a', -1})
	wantList(t, "behind its entries", s.Entries[:len(s.Entries)+1][len(s.Entries)].Elements, elements{elem(0x7000, 1, 1)})
	want(t, "behind its ranges", s.Ranges[:len(s.Ranges)+1][len(s.Ranges)], api.Implicit{From: 1})
	wantList(t, "the elements", e[:4], elements{elem(0x600, 1, 1), elem(0x510, 0x20, 2), elem(0, 0x20, 2), elem(0x700, 1, 1)})
}
