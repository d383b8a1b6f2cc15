package elems_test

import (
	"math/rand"
	"slices"
	"testing"

	"lectern/api"
	"lectern/elems"
	"lectern/norm"
	"lectern/norms"
	"lectern/pack"
	"lectern/table"
	"lectern/weight"
)

// The model: the chapter's words, with lists of places, and all entries looked at one by one.

type model struct {
	classes []api.Class
	source  api.Source
}

func modelOf(x *pack.Table) model { return model{x.Norms().Classes(), x.Source()} }

func (m model) class(r rune) int {
	for _, c := range m.classes {
		if c.From <= r && r <= c.To {
			return c.Class
		}
	}
	return 0
}

// entry is the number of the one with the code points at these places; -1, if there is none.
func (m model) entry(l []rune, at []int) int {
	var codes []rune
	for _, i := range at {
		codes = append(codes, l[i])
	}
	return slices.IndexFunc(m.source.Entries, func(x api.Entry) bool { return slices.Equal(x.Codes, codes) })
}

// first are the places of the longest beginning of rest that has an entry; none, if there is none.
func (m model) first(l []rune, rest []int) []int {
	for long := len(rest); long > 0; long-- {
		if at := rest[:long]; at[long-1] == at[0]+long-1 && m.entry(l, at) >= 0 {
			return slices.Clone(at)
		}
	}
	return nil
}

// seen is what happened while pieces were found, so that one may tell whether lists show much.
type seen struct {
	absorbed, twice, blocked, refused, skipped, byRule, parted, bare int
}

func (m model) blocked(l []rune, left []int, c int) bool {
	return slices.ContainsFunc(left, func(i int) bool { return m.class(l[i]) == m.class(l[c]) })
}

// across adds to s what of the marks in rest goes into it.
func (m model) across(l []rune, s, rest []int, n *seen) []int {
	var left []int
	last, had := s[len(s)-1], len(s)
	for _, c := range rest {
		if m.class(l[c]) == 0 {
			break
		}
		if c > last+1+len(left)+len(s)-had {
			n.skipped++
		}
		switch with := append(slices.Clone(s), c); {
		case m.blocked(l, left, c):
			if m.entry(l, with) >= 0 {
				n.blocked++
			}
			left = append(left, c)
		case m.entry(l, with) < 0:
			n.refused++
			left = append(left, c)
		default:
			n.absorbed++
			if len(with) > had+1 {
				n.twice++
			}
			s = with
		}
	}
	return s
}

// pieces are those of a normalised list.
func (m model) pieces(l []rune, n *seen) []api.Piece {
	var out []api.Piece
	var rest []int
	for i := range l {
		rest = append(rest, i)
	}
	for len(rest) > 0 {
		p := api.Piece{At: m.first(l, rest)}
		if p.At == nil {
			n.byRule++
			p = api.Piece{At: rest[:1:1], Elements: weight.Implicit(l[rest[0]], m.source.Ranges), Rule: true}
		} else {
			p.At = m.across(l, p.At, rest[len(p.At):], n)
			p.Elements = m.source.Entries[m.entry(l, p.At)].Elements
			if len(p.Elements) == 0 {
				n.bare++
			}
		}
		out = append(out, p)
		rest = slices.DeleteFunc(slices.Clone(rest), func(i int) bool { return slices.Contains(p.At, i) })
		if len(rest) > 1 && rest[0]+1 != rest[1] {
			n.parted++
		}
	}
	return out
}

// hold holds all that is told of l against the model.
func hold(t testing.TB, x *pack.Table, m model, l []rune, n *seen) []api.Piece {
	t.Helper()
	whole, e := norm.NFD(x.Norms(), l)
	if e != api.OK {
		wantRefused(t, "no code points", x, l, e)
		return nil
	}
	w := m.pieces(whole, n)
	wantPieces(t, x, l, w...)
	wantAllUsed(t, w, len(whole))
	if t.Failed() {
		t.Fatalf("that was under %s", showTable(x))
	}
	return w
}

// P13.5
func wantAllUsed(t testing.TB, l []api.Piece, n int) {
	t.Helper()
	var all []int
	for _, p := range l {
		if !slices.IsSorted(p.At) {
			t.Errorf("places %d don't rise", p.At)
		}
		all = append(all, p.At...)
	}
	slices.Sort(all)
	if len(all) != n || len(slices.Compact(all)) != n || n > 0 && (all[0] != 0 || all[n-1] != n-1) {
		t.Errorf("places %d; want each of %d once", all, n)
	}
}

func showTable(x *pack.Table) string {
	out := "classes"
	for _, c := range x.Norms().Classes() {
		out += " " + table.Show([]rune{c.From, c.To}) + ":" + string(rune('0'+c.Class))
	}
	for _, one := range x.Source().Entries {
		out += "\n" + table.Show(one.Codes) + " ; " + show(one.Elements)
	}
	return out
}

// Tables and lists

func pick[T any](r *rand.Rand, l []T) T { return l[r.Intn(len(l))] }

var (
	letters = []rune{'a', 'b', 'c'}
	marks   = []rune{0x301, 0x302, 0x303, 0x304, 0x305, 0x306}
	whole   = []rune{0xc0, 0xc1, 0xc2, 0xc3, 0xc4, 0xc5}
)

// someData are data with few classes; some marks may have none.
func someData(t testing.TB, r *rand.Rand) []byte {
	t.Helper()
	var classes []api.Class
	for _, m := range marks {
		if class := pick(r, []int{0, 1, 1, 2, 2, 3, 254}); class > 0 {
			classes = append(classes, api.Class{From: m, To: m, Class: class})
		}
	}
	for {
		var d []api.Decomp
		for _, c := range whole {
			if r.Intn(2) == 0 {
				one := api.Decomp{Code: c, A: pick(r, slices.Concat(letters, marks, whole[:3]))}
				if r.Intn(4) > 0 {
					one.B = pick(r, slices.Concat(marks, letters[:1]))
				}
				d = append(d, one)
			}
		}
		if b, e := norms.Build(classes, d); e == api.OK {
			return b
		}
	}
}

// someCodes are what an entry may have under n: letters and marks, mostly marks behind.
func someCodes(r *rand.Rand, n *norms.Norms) []rune {
	var l []rune
	for range 1 + r.Intn(4)>>r.Intn(2) {
		l = append(l, pick(r, letters))
		if r.Intn(3) > 0 {
			l = nil
		}
		for range r.Intn(4) {
			l = append(l, pick(r, marks))
		}
	}
	if r.Intn(2) == 0 || len(l) == 0 {
		l = slices.Insert(l, 0, pick(r, letters))
	}
	l, _ = norm.NFD(n, l)
	return l[:min(len(l), api.MaxSeq)]
}

// someTable is well formed: what an entry needs ahead of it is there, too.
func someTable(t testing.TB, r *rand.Rand) *pack.Table {
	t.Helper()
	data := someData(t, r)
	n, _ := norms.Load(data)
	s := api.Source{Version: "1", Ranges: pick(r, [][]api.Implicit{nil, weight.Unified()})}
	add := func(codes []rune) {
		for long := len(codes); long > 0; long-- {
			has := func(x api.Entry) bool { return slices.Equal(x.Codes, codes[:long]) }
			if !slices.ContainsFunc(s.Entries, has) {
				some := slices.Repeat([]api.Element{elem(0x100+len(s.Entries), 0x20, 2)}, pick(r, []int{0, 1, 1, 1, 1, 2, 3}))
				s.Entries = append(s.Entries, api.Entry{Codes: codes[:long], Elements: some})
			}
			if long > 1 && n.Starter(codes[long-1]) || long == 2 && r.Intn(4) == 0 {
				return
			}
		}
	}
	for _, c := range slices.Concat(letters, marks) {
		if r.Intn(4) > 0 {
			add([]rune{c})
		}
	}
	for range r.Intn(20) {
		add(someCodes(r, n))
	}
	return load(t, data, s)
}

// someList has what entries have with marks between, letters, marks, whole ones, others, and now and then what is no code point.
func someList(r *rand.Rand, m model) []rune {
	var l []rune
	for range r.Intn(12) {
		switch n := r.Intn(200); {
		case n == 0:
			l = append(l, pick(r, []rune{-1, 0xd800, 0x110000}))
		case n < 4:
			l = append(l, pick(r, []rune{0, 'x', 0x4e00, 0xac01, 0x10ffff}))
		case n < 30:
			l = append(l, pick(r, letters))
		case n < 50:
			l = append(l, pick(r, whole))
		case n < 110 && len(m.source.Entries) > 0:
			for _, c := range pick(r, m.source.Entries).Codes {
				l = append(l, c)
				for range r.Intn(3) * r.Intn(2) {
					l = append(l, pick(r, marks))
				}
			}
		default:
			l = append(l, pick(r, marks))
		}
	}
	return l
}

// P13.1 to P13.3, P13.5

func TestAgainstTheModel(t *testing.T) {
	r := rand.New(rand.NewSource(1))
	var n seen
	for range 3000 {
		x := someTable(t, r)
		m := modelOf(x)
		for range 15 {
			hold(t, x, m, someList(r, m), &n)
		}
	}
	for what, times := range map[string]int{"marks met": n.absorbed, "two or more": n.twice, "blocked": n.blocked, "left": n.refused, "over what was used": n.skipped, "by rule": n.byRule, "parted": n.parted, "no elements": n.bare} {
		if times < 1000 {
			t.Errorf("%s: %d times, which shows little: %+v", what, times, n)
		}
	}
}

// All lists of a letter and some marks, under one table.
func TestAllShortLists(t *testing.T) {
	x := tableOf(t, "a", "a\u0323", "a\u0323\u0301", "a\u0301", "a\u0301\u0345", "a\u0301\u0301", "\u0323", "\u0323\u0300", "\u0301", "ab", "ab\u0301", "\u0300b", "b\u0301")
	m := modelOf(x)
	var n seen
	var all func(l []rune, long int)
	all = func(l []rune, long int) {
		if long == 0 {
			hold(t, x, m, l, &n)
			return
		}
		for _, r := range "ab\u0300\u0301\u0323\u0345\u00e1" {
			all(append(slices.Clone(l), r), long-1)
		}
	}
	for long := range 6 {
		all(nil, long)
	}
}

// Long lists, too, in little time.
func TestLongLists(t *testing.T) {
	r := rand.New(rand.NewSource(2))
	var n seen
	for range 4 {
		x := someTable(t, r)
		m := modelOf(x)
		for _, from := range [][]rune{marks, letters, slices.Concat(marks, marks, marks, letters)} {
			var l []rune
			for range 300 {
				l = append(l, pick(r, from))
			}
			hold(t, x, m, l, &n)
		}
	}
	// Each mark goes over all that are left behind it.
	l := append(manyOf(api.MaxCodes-1, 0x323), 0x345)
	x := tableOf(t, "\u0323", "\u0323\u0345", "\u0323\u0323", "\u0323\u0323\u0345", "\u0345")
	pieces, e := elems.Pieces(x, l)
	want(t, "Pieces' error", e, api.OK)
	want(t, "pieces", len(pieces), 2000)
	want(t, "the first one", showPieces(pieces[:1]), showPieces([]api.Piece{of(3, 0, 1, 3999)}))
	want(t, "the last one", showPieces(pieces[1999:]), showPieces([]api.Piece{of(0, 3998)}))
	wantAllUsed(t, pieces, api.MaxCodes)
}

// P13.4: no code point brings more, wherever it stands.
func TestMostIsMost(t *testing.T) {
	r := rand.New(rand.NewSource(3))
	for range 2000 {
		x := someTable(t, r)
		most := 2
		for _, one := range x.Source().Entries {
			most = max(most, len(one.Elements))
		}
		want(t, "Most", elems.Most(x), most)
		want(t, "Made", x.Made(), 0)
		l := someList(r, modelOf(x))
		codes, _ := norm.NFD(x.Norms(), l)
		if all, _ := elems.Of(x, l); len(all) > most*len(codes) {
			t.Errorf("%d elements of %d code points; Most tells %d", len(all), len(codes), most)
		}
	}
}

// P13.6

// rewritten is a list that is equivalent to l: marks of several classes change places, and what a code point comes to is made that.
func rewritten(r *rand.Rand, n *norms.Norms, l []rune) []rune {
	out := slices.Clone(l)
	for range r.Intn(20) {
		if len(out) == 0 {
			break
		}
		at := r.Intn(len(out))
		switch r.Intn(3) {
		case 0:
			out = slices.Replace(out, at, at+1, n.Decomp(out[at])...)
		case 1:
			c := pick(r, whole)
			if d := n.Decomp(c); len(out) >= at+len(d) && slices.Equal(out[at:at+len(d)], d) {
				out = slices.Replace(out, at, at+len(d), c)
			}
		case 2:
			if at+1 < len(out) && changePlaces(n, out[at], out[at+1]) {
				out[at], out[at+1] = out[at+1], out[at]
			}
		}
	}
	return out
}

// changePlaces tells whether both are marks, of several classes, that don't come to others.
func changePlaces(n *norms.Norms, a, b rune) bool {
	return !n.Starter(a) && !n.Starter(b) && n.Class(a) != n.Class(b) && len(n.Decomp(a)) == 1 && len(n.Decomp(b)) == 1
}

func TestEquivalent(t *testing.T) {
	r := rand.New(rand.NewSource(4))
	others := 0
	for range 800 {
		x := someTable(t, r)
		m := modelOf(x)
		for range 20 {
			a := slices.DeleteFunc(someList(r, m), func(c rune) bool { return c < 0 || c == 0xd800 || c == 0x110000 })
			b := rewritten(r, x.Norms(), a)
			if same, e := norm.Same(x.Norms(), string(a), string(b)); !same || e != api.OK {
				t.Fatalf("%s and %s are not equivalent, error %d", table.Show(a), table.Show(b), e)
			}
			if !slices.Equal(a, b) {
				others++
			}
			one, _ := elems.Pieces(x, a)
			wantPieces(t, x, b, one...)
			codes, _ := norm.NFD(x.Norms(), a)
			wantPieces(t, x, codes, one...)
		}
	}
	if others < 4000 {
		t.Errorf("%d of 16000 are rewritten, which shows little", others)
	}
}

// P13.7

// goesOn tells whether an entry of two or more code points goes on with r.
func goesOn(s api.Source, r rune) bool {
	return slices.ContainsFunc(s.Entries, func(x api.Entry) bool { return slices.Contains(x.Codes[1:], r) })
}

func TestStartersPart(t *testing.T) {
	r := rand.New(rand.NewSource(5))
	parted, others := 0, 0
	for range 1000 {
		x := someTable(t, r)
		m := modelOf(x)
		for range 20 {
			a, _ := norm.NFD(x.Norms(), someList(r, m))
			b, _ := norm.NFD(x.Norms(), someList(r, m))
			one, _ := elems.Pieces(x, a)
			two, _ := elems.Pieces(x, b)
			if len(b) == 0 || !x.Norms().Starter(b[0]) || goesOn(m.source, b[0]) {
				if both, _ := elems.Of(x, slices.Concat(a, b)); !slices.Equal(both, joined(slices.Concat(one, two))) {
					others++
				}
				continue
			}
			parted++
			for _, p := range two {
				for i := range p.At {
					p.At[i] += len(a)
				}
			}
			wantPieces(t, x, slices.Concat(a, b), slices.Concat(one, two)...)
		}
	}
	if parted < 2500 || others < 1500 {
		t.Errorf("%d parted, %d others that are otherwise, which shows little", parted, others)
	}
}

func FuzzPieces(f *testing.F) {
	for seed := range int64(10) {
		f.Add(seed, []byte("\x00\x05\x06\x07\x08"))
		f.Add(seed, []byte("\x03\x04\x05\x10\x01\x20\x06"))
	}
	all := slices.Concat(letters, marks, whole, []rune{0, 'x', 0x4e00, 0xac01, 0x10ffff, -1, 0xd800})
	f.Fuzz(func(t *testing.T, seed int64, b []byte) {
		x := someTable(t, rand.New(rand.NewSource(seed)))
		var l []rune
		for _, c := range b[:min(len(b), 200)] {
			l = append(l, all[int(c)%len(all)])
		}
		hold(t, x, modelOf(x), l, new(seen))
	})
}
