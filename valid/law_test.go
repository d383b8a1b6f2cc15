package valid_test

import (
	"math/rand"
	"regexp"
	"slices"
	"sort"
	"testing"

	"lectern/api"
	"lectern/norm"
	"lectern/norms"
	"lectern/trie"
	"lectern/valid"
	"lectern/weight"
)

// The model: the chapter's words one by one, each element held against each other.

var versionForm = regexp.MustCompile(`^[!-~]{1,32}\z`)

// all are all elements of a level, those by rule too.
func all(s api.Source, levels ...int) []api.Element {
	var out []api.Element
	for _, x := range append(slices.Clone(s.Entries), api.Entry{Elements: []api.Element{elem(0xfbc0, 0x20, 2), elem(0x8000, 0, 0)}}) {
		for _, e := range x.Elements {
			if slices.Contains(levels, weight.Level(e)) {
				out = append(out, e)
			}
		}
	}
	return out
}

func isNormal(n *norms.Norms, x api.Entry) bool {
	whole, e := norm.NFD(n, x.Codes)
	return e == api.OK && slices.Equal(whole, x.Codes)
}

func hasPrefix(n *norms.Norms, s api.Source, x api.Entry) bool {
	long := len(x.Codes)
	return long < 2 || n.Starter(x.Codes[long-1]) || long == 2 || slices.ContainsFunc(s.Entries, func(y api.Entry) bool { return slices.Equal(y.Codes, x.Codes[:long-1]) })
}

func isAbove(s api.Source, e api.Element) bool {
	for _, y := range all(s, 1) {
		if weight.Level(e) == 2 && e.S <= y.S {
			return false
		}
	}
	for _, y := range all(s, 1, 2) {
		if weight.Level(e) == 3 && e.T <= y.T {
			return false
		}
	}
	return true
}

func isBelow(s api.Source, x api.Entry) bool {
	variable := func(e api.Element) bool { return e.Var }
	other := func(e api.Element) bool { return !e.Var && weight.Level(e) == 1 }
	for _, e := range x.Elements {
		for _, y := range s.Entries {
			if e.Var && slices.ContainsFunc(y.Elements, func(z api.Element) bool { return other(z) && e.P >= z.P }) {
				return false
			}
		}
	}
	return !slices.ContainsFunc(x.Elements, variable) || !slices.ContainsFunc(x.Elements, other)
}

func checkOf(n *norms.Norms, s api.Source) (int, api.Errno) {
	if !versionForm.MatchString(s.Version) {
		return 0, api.ErrVersion
	}
	if e := weight.Ranges(s.Ranges); e != api.OK {
		return 0, e
	}
	if _, at, e := trie.New(s.Entries); e != api.OK {
		return at, e
	}
	for at, x := range s.Entries {
		if !isNormal(n, x) {
			return at, api.ErrNormal
		}
		if !hasPrefix(n, s, x) {
			return at, api.ErrPrefix
		}
	}
	for at, x := range s.Entries {
		if slices.ContainsFunc(x.Elements, func(e api.Element) bool { return !isAbove(s, e) }) {
			return at, api.ErrOrder
		}
	}
	for at, x := range s.Entries {
		if !isBelow(s, x) {
			return at, api.ErrVar
		}
	}
	return 0, api.OK
}

func topOf(s api.Source) api.Element {
	p, q, r := []int{0}, []int{0}, []int{0}
	variable := false
	for _, x := range s.Entries {
		for _, e := range x.Elements {
			p, q, r = append(p, e.P), append(q, e.S), append(r, e.T)
			variable = variable || e.Var
		}
	}
	return api.Element{P: slices.Max(p), S: slices.Max(q), T: slices.Max(r), Var: variable}
}

// sortOf sorts by the places of the entries, too: those that are alike stay.
func sortOf(s api.Source) api.Source {
	out := cloned(s)
	places := make([]int, len(s.Entries))
	for i := range places {
		places[i] = i
	}
	sort.Slice(places, func(i, j int) bool {
		a, b := s.Entries[places[i]].Codes, s.Entries[places[j]].Codes
		for k := range min(len(a), len(b)) {
			if a[k] != b[k] {
				return a[k] < b[k]
			}
		}
		return len(a) < len(b) || len(a) == len(b) && places[i] < places[j]
	})
	for i, at := range places {
		out.Entries[i] = s.Entries[at]
	}
	return out
}

// hold holds all calls against the model.
func hold(t testing.TB, n *norms.Norms, s api.Source) api.Errno {
	t.Helper()
	was := cloned(s)
	place, err := checkOf(n, s)
	at, e := valid.Check(n, s)
	if at != place || e != err {
		t.Fatalf("Check: place %d, error %d; want place %d, error %d\n%s", at, e, place, err, showSource(s))
	}
	if got, w := valid.Top(s), topOf(s); got != w {
		t.Fatalf("Top: %v, want %v\n%s", got, w, showSource(s))
	}
	sorted := sortOf(s)
	got := valid.Sort(s)
	if !sameSource(got, sorted) || !sameSource(valid.Sort(got), sorted) {
		t.Fatalf("Sort: %s\nwant %s", showSource(got), showSource(sorted))
	}
	if a, b := valid.Same(s, got), sameSource(s, got); a != b || valid.Same(got, s) != b || !valid.Same(s, s) {
		t.Fatalf("Same of a source and its Sort: %v, want %v\n%s", a, b, showSource(s))
	}
	if !sameSource(s, was) {
		t.Fatalf("what was given has changed: %s\nwas %s", showSource(s), showSource(was))
	}
	return e
}

// Sources

func pick[T any](r *rand.Rand, l []T) T { return l[r.Intn(len(l))] }

var (
	letters = []rune{'a', 'b', 'c', 0x1100, 0x4e00}
	marks   = []rune{0x301, 0x302, 0x323, 0x327, 0x338, 0x345}
)

// someCodes are letters, each with marks behind it, or marks alone.
func someCodes(r *rand.Rand, n *norms.Norms) []rune {
	var out []rune
	for range r.Intn(3) {
		out = append(out, pick(r, letters))
	}
	for len(out) == 0 || r.Intn(2) == 0 && len(out) < 8 {
		out = append(out, pick(r, marks[:1+r.Intn(len(marks))]))
	}
	return norm.Order(n, out)
}

// someElements are well ordered, each level in a band of its own, but for one in wild.
func someElements(r *rand.Rand, wild int) []api.Element {
	out := make([]api.Element, r.Intn(5)>>r.Intn(2))
	variable := r.Intn(3) == 0
	for i := range out {
		switch r.Intn(6) {
		case 0:
			out[i] = elem(0, 0, 8+r.Intn(3))
		case 1:
			out[i] = elem(0, 0x30+r.Intn(3), 1+r.Intn(5))
		case 2:
			if r.Intn(4) > 0 {
				out[i] = api.Element{P: 1 + r.Intn(3), S: 0x20, T: 2, Var: true}
				break
			}
		default:
			out[i] = elem(0x10+r.Intn(9), 0x1f+r.Intn(4), 1+r.Intn(6))
		}
		if weight.Level(out[i]) == 1 && r.Intn(20) > 0 {
			if out[i].Var = variable; variable {
				out[i].P = 1 + r.Intn(3)
			} else if out[i].P < 0x10 {
				out[i].P += 0x10
			}
		}
		if r.Intn(wild) == 0 {
			out[i] = pick(r, []api.Element{
				elem(0, 0, 1), elem(0, 0, 2), elem(0, 0, 3), elem(0, 0, 5), elem(0, 0, 6), elem(0, 0x20, 1), elem(0, 0x21, 1), elem(0, 0x22, 7), elem(0, 0x23, 9),
				elem(9, 0x20, 2), elem(2, 0x31, 2), elem(0x20, 0x20, 9), varied(0x10, 0x20, 2), varied(0x18, 0x20, 2), varied(2, 0x30, 9), elem(0xfaff, 0x1ff, 0x3f),
			})
		}
	}
	return out
}

// someSource is well formed often enough.
func someSource(r *rand.Rand, n *norms.Norms) api.Source {
	s := source()
	wild := pick(r, []int{15, 100, 1_000_000})
	has := func(l []rune) bool {
		return slices.ContainsFunc(s.Entries, func(y api.Entry) bool { return slices.Equal(l, y.Codes) })
	}
	lacks := r.Intn(4) == 0
	for range r.Intn(10) {
		l := someCodes(r, n)
		for long := len(l); long > 0; long-- {
			if has(l[:long]) || long < len(l) && (lacks || n.Starter(l[long])) {
				break
			}
			if long > 1 || long == len(l) || r.Intn(2) == 0 {
				s.Entries = append(s.Entries, api.Entry{Codes: slices.Clone(l[:long]), Elements: someElements(r, wild)})
			}
		}
	}
	return s
}

// spoilt is a source of which something is otherwise.
func spoilt(r *rand.Rand, s api.Source) api.Source {
	for range r.Intn(3) {
		switch r.Intn(9) {
		case 0:
			s.Version = pick(r, []string{"", "a b", "\x7f", "012345678901234567890123456789012", "01234567890123456789012345678901"})
		case 1:
			s.Ranges = pick(r, [][]api.Implicit{nil, {{From: 2, To: 1, Base: 0xfb40}}, {{From: 1, To: 2, Base: 7}}, slices.Repeat(weight.Unified(), 26)})
		case 2:
			s.Entries = append(s.Entries, api.Entry{Codes: pick(r, [][]rune{nil, {-1}, {0xd800}, {'a'}, []rune("abcdefghi"), {0x110000}})})
		case 3:
			s.Entries = append(s.Entries, entry("q", elem(pick(r, []int{-1, 0, 1, 0xfaff, 0xfb00, 0x10000}), pick(r, []int{-1, 0, 1, 0x1ff, 0x200}), pick(r, []int{-1, 0, 1, 0x3f, 0x40}))))
		case 4:
			s.Entries = append(s.Entries, entry("r", slices.Repeat([]api.Element{elem(0x10, 0x20, 2)}, 15+r.Intn(3))...))
		case 5, 6:
			s.Entries = append(s.Entries, entry(pick(r, []string{"\u00e9", "a\u0301\u0323", "\u0344", "\uac01", "a\u212b", "a\u1ead", "\u0302\u0327"}), elem(0x10, 0x20, 2)))
		default:
			s.Entries = append(s.Entries, entry("q\u0323\u0301", elem(0x10, 0x20, 2)))
		}
		r.Shuffle(len(s.Entries), func(i, j int) { s.Entries[i], s.Entries[j] = s.Entries[j], s.Entries[i] })
	}
	return s
}

func TestAnySources(t *testing.T) {
	r := rand.New(rand.NewSource(1))
	n := data(t)
	kinds := map[api.Errno]int{}
	for range 60_000 {
		s := someSource(r, n)
		if r.Intn(3) == 0 {
			s = spoilt(r, s)
		}
		kinds[hold(t, n, s)]++
		if r.Intn(5) == 0 {
			hold(t, pick(r, noData()), s)
		}
	}
	for _, e := range []api.Errno{api.OK, api.ErrVersion, api.ErrImpl, api.ErrSeq, api.ErrLong, api.ErrWeight, api.ErrTwin, api.ErrNormal, api.ErrPrefix, api.ErrOrder, api.ErrVar} {
		if kinds[e] < 300 {
			t.Errorf("error %d: %d times, which shows little: %v", e, kinds[e], kinds)
		}
	}
}

// P11.5
func TestOrderOfEntriesIsNothing(t *testing.T) {
	r := rand.New(rand.NewSource(2))
	n := data(t)
	well, ill := 0, 0
	for range 20_000 {
		s := someSource(r, n)
		if r.Intn(4) == 0 {
			s = spoilt(r, s)
		}
		_, was := valid.Check(n, s)
		other := cloned(s)
		r.Shuffle(len(other.Entries), func(i, j int) {
			other.Entries[i], other.Entries[j] = other.Entries[j], other.Entries[i]
		})
		_, is := valid.Check(n, other)
		_, sorted := valid.Check(n, valid.Sort(s))
		if (was == api.OK) != (is == api.OK) || (was == api.OK) != (sorted == api.OK) {
			t.Fatalf("error %d, in another order %d, sorted %d\n%s", was, is, sorted, showSource(s))
		}
		if was == api.OK {
			well++
		} else {
			ill++
		}
	}
	if well < 3000 || ill < 3000 {
		t.Errorf("%d and %d, which shows little", well, ill)
	}
}

// P11.6
func TestPartOfWellFormedSources(t *testing.T) {
	r := rand.New(rand.NewSource(3))
	n := data(t)
	parts := 0
	for range 20_000 {
		s := someSource(r, n)
		if _, e := valid.Check(n, s); e != api.OK {
			continue
		}
		for at, x := range s.Entries {
			if len(x.Codes) > 1 || slices.ContainsFunc(s.Entries, func(y api.Entry) bool { return len(y.Codes) > 1 && y.Codes[0] == x.Codes[0] }) {
				continue
			}
			parts++
			part := cloned(s)
			part.Entries = slices.Delete(part.Entries, at, at+1)
			if place, e := valid.Check(n, part); place != 0 || e != api.OK {
				t.Fatalf("without entry %d: place %d, error %d\n%s", at, place, e, showSource(s))
			}
		}
	}
	if parts < 3000 {
		t.Errorf("%d, which shows little", parts)
	}
	s := valid.Small()
	for at := range s.Entries {
		part := valid.Small()
		part.Entries = slices.Delete(part.Entries, at, at+1)
		wantCheck(t, "a part of Small", part, 0, api.OK)
	}
}

// sourceFrom makes a source of bytes, such as may be and others.
func sourceFrom(b []byte) api.Source {
	s := source()
	codes := slices.Concat(letters, marks, []rune{0xe9, 0x344, 0xac01, 0xd800, -1})
	seconds, thirds := []int{0, 1, 0x20, 0x21, 0x30, 0x31, 0x1ff, 0x200}, []int{0, 1, 2, 3, 8, 9, 0x3f, 0x40}
	for len(b) > 0 {
		head := b[0]
		long, many := min(int(head&3)+int(head>>7), len(b)-1), int(head>>2)&3
		x := api.Entry{}
		for _, c := range b[1 : 1+long] {
			x.Codes = append(x.Codes, codes[int(c)%len(codes)])
		}
		for b = b[1+long:]; many > 0 && len(b) > 1; many-- {
			x.Elements = append(x.Elements, api.Element{P: int(b[0] >> 4), Var: b[0]&1 > 0, S: seconds[b[1]&7], T: thirds[b[1]>>3&7]})
			b = b[2:]
		}
		s.Entries = append(s.Entries, x)
	}
	return s
}

func FuzzCheck(f *testing.F) {
	f.Add("1", []byte{})
	f.Add("", []byte{5, 0, 0x10, 0x12})
	f.Add("1", []byte{6, 0, 5, 0x10, 0x12, 3, 0, 7, 5})
	f.Add("1", []byte{9, 0, 0x10, 0x12, 0, 0x13, 5, 1, 0x21, 0x12})
	f.Fuzz(func(t *testing.T, version string, b []byte) {
		s := sourceFrom(b)
		s.Version = version
		hold(t, data(t), s)
		hold(t, nil, s)
	})
}
