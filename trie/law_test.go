package trie_test

import (
	"cmp"
	"math/rand"
	"slices"
	"testing"

	"lectern/api"
	"lectern/trie"
	"lectern/weight"
)

// model is the entries as they were put in; each call of it is the chapter's words, asked of each entry in turn.
type model []api.Entry

func isCode(r rune) bool { return r >= 0 && r <= 0x10ffff && (r < 0xd800 || r > 0xdfff) }

func beginsWith(codes, l []rune) bool { return len(codes) >= len(l) && slices.Equal(codes[:len(l)], l) }

// refused is the place and error of New.
func (m model) refused() (int, api.Errno) {
	if len(m) > 4000 {
		return 0, api.ErrLong
	}
	for i, x := range m {
		if len(x.Codes) < 1 || len(x.Codes) > 8 {
			return i, api.ErrSeq
		}
		for _, r := range x.Codes {
			if !isCode(r) {
				return i, api.ErrSeq
			}
		}
		if len(x.Elements) > 16 {
			return i, api.ErrLong
		}
		for _, e := range x.Elements {
			if weight.Check(e) != api.OK {
				return i, api.ErrWeight
			}
		}
		for _, ahead := range m[:i] {
			if slices.Equal(ahead.Codes, x.Codes) {
				return i, api.ErrTwin
			}
		}
	}
	return 0, api.OK
}

func (m model) get(l []rune) ([]api.Element, bool) {
	for _, x := range m {
		if slices.Equal(x.Codes, l) {
			return x.Elements, true
		}
	}
	return nil, false
}

func (m model) longest(l []rune) (int, []api.Element) {
	for long := min(len(l), 8); long > 0; long-- {
		if e, is := m.get(l[:long]); is {
			return long, e
		}
	}
	return 0, nil
}

func (m model) begins(l []rune) bool {
	for _, x := range m {
		if beginsWith(x.Codes, l) && len(x.Codes) > len(l) {
			return true
		}
	}
	return false
}

// under are the numbers of the entries that begin with l, one by one put where they stand.
func (m model) under(l []rune) []int {
	var out []int
	for i, x := range m {
		if !beginsWith(x.Codes, l) {
			continue
		}
		at := 0
		for at < len(out) && before(m[out[at]].Codes, x.Codes) {
			at++
		}
		out = slices.Insert(out, at, i)
	}
	return out
}

// before tells whether a stands ahead of b: by the first code point that differs, or, if none does, as its beginning.
func before(a, b []rune) bool {
	for i := range min(len(a), len(b)) {
		if c := cmp.Compare(a[i], b[i]); c != 0 {
			return c < 0
		}
	}
	return len(a) < len(b)
}

// Few code points, so that many entries begin alike; those at the edges, and none.
var (
	codes   = []rune{'a', 'b', 'c', 0, 0x301, 0xd7ff, 0xe000, 0xffff, 0x10000, 0x10ffff}
	noCodes = []rune{-1, 0xd800, 0xdfff, 0x110000, -1 << 31, 1<<31 - 1}
)

func pick[T any](r *rand.Rand, l []T) T { return l[r.Intn(len(l))] }

// someCodes are up to most code points, of which the first few ones are the most frequent.
func someCodes(r *rand.Rand, most int) []rune {
	out := make([]rune, 1+r.Intn(most))
	few := codes[:2+r.Intn(len(codes)-1)]
	for i := range out {
		out[i] = pick(r, few)
	}
	return out
}

func someElements(r *rand.Rand) []api.Element {
	out := make([]api.Element, r.Intn(17)>>r.Intn(5))
	for i := range out {
		switch out[i] = elem(1+r.Intn(0xfaff), 1+r.Intn(0x1ff), 1+r.Intn(0x3f)); r.Intn(6) {
		case 0:
			out[i].Var = true
		case 1:
			out[i].P = 0
		case 2:
			out[i].P, out[i].S = 0, 0
		case 3:
			out[i] = api.Element{}
		}
	}
	return out
}

// someEntries are entries that may be.
func someEntries(r *rand.Rand) model {
	var out model
	for range r.Intn(30) {
		x := api.Entry{Codes: someCodes(r, 1+r.Intn(8)), Elements: someElements(r)}
		if _, is := out.get(x.Codes); !is {
			out = append(out, x)
		}
	}
	return out
}

// someAsked is a list that is asked for: of an entry's code points, fewer, more, others, or any.
func someAsked(r *rand.Rand, m model) []rune {
	if len(m) == 0 || r.Intn(5) == 0 {
		return someCodes(r, 10)
	}
	l := slices.Clone(pick(r, m).Codes)
	switch r.Intn(6) {
	case 0:
		l = l[:r.Intn(len(l)+1)]
	case 1:
		l = append(l, someCodes(r, 4)...)
	case 2:
		l = append(l, pick(r, m).Codes...)
	case 3:
		l[r.Intn(len(l))] = pick(r, codes)
	case 4:
		l[r.Intn(len(l))] = pick(r, noCodes)
	}
	return l
}

// holdAsked holds what is answered for l against the model.
func holdAsked(t *testing.T, x *trie.Trie, m model, l []rune) {
	t.Helper()
	was := slices.Clone(l)
	elements, is := m.get(l)
	wantGet(t, x, l, elements, is)
	long, elements := m.longest(l)
	wantLongest(t, x, l, long, elements)
	want(t, "Begins of "+hex(l), x.Begins(l), m.begins(l))
	numbers := m.under(l)
	at := 0
	for one := range x.Under(l) {
		if at >= len(numbers) || !sameEntry(one, m[numbers[at]]) {
			t.Fatalf("Under %s: %v at %d", hex(l), one, at)
		}
		at++
	}
	want(t, "how many are Under "+hex(l), at, len(numbers))
	wantList(t, "what was asked for", l, was)
}

// holdNew holds New against the model, and then, if there is a trie, all that it tells.
func holdNew(t *testing.T, m model) *trie.Trie {
	t.Helper()
	place, err := m.refused()
	x, at, e := trie.New(m)
	if at != place || e != err || (x != nil) != (err == api.OK) {
		t.Fatalf("New of %v: place %d, error %d; want place %d, error %d", m, at, e, place, err)
	}
	if err != api.OK {
		return nil
	}
	want(t, "Len", x.Len(), len(m))
	wantTold(t, x, m, m.under(nil)...)
	for _, one := range m {
		holdAsked(t, x, m, one.Codes)
	}
	return x
}

func TestAnyEntries(t *testing.T) {
	r := rand.New(rand.NewSource(1))
	met := 0
	for range 1500 {
		m := someEntries(r)
		x := holdNew(t, m)
		ahead := x.Asked()
		for range 30 {
			l := someAsked(r, m)
			holdAsked(t, x, m, l)
			if n, _ := x.Longest(l); n > 0 && n < len(l) {
				met++
			}
		}
		want(t, "Asked", x.Asked()-ahead, 30*3)
	}
	if met < 5000 {
		t.Errorf("a beginning was met %d times, which shows little", met)
	}
}

// spoil changes one entry so that it mostly may not be, and sometimes two.
func spoil(r *rand.Rand, m model) model {
	at := r.Intn(len(m))
	x := &m[at]
	switch r.Intn(7) {
	case 0:
		x.Codes = slices.Insert(x.Codes, r.Intn(len(x.Codes)+1), pick(r, noCodes))
	case 1:
		x.Codes = nil
	case 2:
		x.Codes = append(x.Codes, someCodes(r, 8)...)
	case 3:
		x.Elements = append(x.Elements, make([]api.Element, r.Intn(20))...)
	case 4:
		x.Elements = append(x.Elements, api.Element{P: r.Intn(4) - 1, S: r.Intn(4) - 1, T: r.Intn(4) - 1, Var: r.Intn(2) == 0})
	case 5:
		x.Elements = append([]api.Element{{P: 0xfaff + r.Intn(2), S: 0x1ff + r.Intn(2), T: 0x3f + r.Intn(2)}}, x.Elements...)
	case 6:
		m = slices.Insert(m, r.Intn(len(m)+1), api.Entry{Codes: slices.Clone(x.Codes), Elements: someElements(r)})
	}
	return m
}

func TestEntriesNearlySo(t *testing.T) {
	r := rand.New(rand.NewSource(2))
	kinds := map[api.Errno]int{}
	for range 20_000 {
		m := someEntries(r)
		for range 1 + r.Intn(2) {
			if len(m) > 0 {
				m = spoil(r, m)
			}
		}
		holdNew(t, m)
		_, e := m.refused()
		kinds[e]++
	}
	for _, e := range []api.Errno{api.OK, api.ErrSeq, api.ErrLong, api.ErrWeight, api.ErrTwin} {
		if kinds[e] < 300 {
			t.Errorf("error %d: %d times, which shows little", e, kinds[e])
		}
	}
}

// P9.6

func TestWhatWasPutIn(t *testing.T) {
	r := rand.New(rand.NewSource(3))
	for range 1000 {
		m := someEntries(r)
		x := made(t, m)
		numbers := map[int]bool{}
		for number, one := range x.Each() {
			if numbers[number] || !sameEntry(one, m[number]) {
				t.Fatalf("Each: number %d: %v", number, one)
			}
			numbers[number] = true
			wantGet(t, x, one.Codes, one.Elements, true)
		}
		want(t, "entries of Each", len(numbers), len(m))
		for range 20 {
			l := someAsked(r, m)
			long, elements := x.Longest(l)
			if long > 0 {
				wantGet(t, x, l[:long], elements, true)
			}
			for more := long + 1; more <= len(l); more++ {
				wantGet(t, x, l[:more], nil, false)
			}
			for one := range x.Under(l) {
				if !beginsWith(one.Codes, l) {
					t.Errorf("Under %s: %s", hex(l), hex(one.Codes))
				}
			}
		}
	}
}

// In whatever order they are put in, the answers are the same, but for the numbers.
func TestOrderDoesNotMatter(t *testing.T) {
	r := rand.New(rand.NewSource(4))
	for range 300 {
		m := someEntries(r)
		other := slices.Clone(m)
		r.Shuffle(len(other), func(i, j int) { other[i], other[j] = other[j], other[i] })
		var one, two []api.Entry
		for _, x := range made(t, m).Each() {
			one = append(one, x)
		}
		for _, x := range made(t, other).Each() {
			two = append(two, x)
		}
		if !slices.EqualFunc(one, two, sameEntry) {
			t.Fatalf("%v and %v", one, two)
		}
	}
}

// entriesOf makes entries of bytes, such as may be and others: a byte says how many code points follow and how many elements.
func entriesOf(b []byte) model {
	var out model
	for len(b) > 0 {
		head := b[0]
		b = b[1:]
		long := min(int(head%10), len(b))
		var x api.Entry
		for _, c := range b[:long] {
			if c < 240 {
				x.Codes = append(x.Codes, codes[int(c)%len(codes)])
			} else {
				x.Codes = append(x.Codes, noCodes[int(c)%len(noCodes)])
			}
		}
		b = b[long:]
		for i := range int(head/10) % 20 {
			x.Elements = append(x.Elements, elem(len(out)+1, i+1, int(head)%70))
		}
		out = append(out, x)
	}
	return out
}

func FuzzNew(f *testing.F) {
	for _, s := range []string{"", "\x01a", "\x01a\x02ch\x01c", "\x00", "\x09abcdefghi", "\x01a\x01a", "\x01\xff", "\xb5abcde", "\x17abc\x21a\x08abcdefgh"} {
		f.Add([]byte(s), []byte("cha"))
	}
	f.Fuzz(func(t *testing.T, b, asked []byte) {
		if len(b) > 2000 || len(asked) > 100 {
			return // the model is slow
		}
		m := entriesOf(b)
		x := holdNew(t, m)
		if x == nil {
			return
		}
		var l []rune
		for _, c := range asked {
			l = append(l, codes[int(c)%len(codes)])
		}
		for from := range len(l) + 1 {
			holdAsked(t, x, m, l[from:])
		}
	})
}
