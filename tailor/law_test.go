package tailor_test

import (
	"math/rand"
	"regexp"
	"slices"
	"strconv"
	"strings"
	"testing"
	"unicode/utf8"

	"lectern/api"
	"lectern/norm"
	"lectern/norms"
	"lectern/tailor"
	"lectern/trie"
	"lectern/weight"
)

// The model: the chapter's words one by one; texts by forms, tables by looking at each entry in turn, and copied for each step.

var (
	nothingForm = regexp.MustCompile(`^(?:[ \t\n]|#[^\n]*)*`)
	partForm    = regexp.MustCompile(`^(?:[^ \t\n&<=/#'\\]|\\u[0-9a-fA-F]{4}|\\U[0-9a-fA-F]{6}|'[^'\n]*')`)
	signForm    = regexp.MustCompile(`^(?:&|<<<|<<|<|=|/)`)
)

var modelKinds = []string{"&", "<", "<<", "<<<", "="}

func noText(s string) int {
	for at := 0; at < len(s); {
		r, long := utf8.DecodeRuneInString(s[at:])
		if r == utf8.RuneError && long == 1 {
			return at
		}
		at += long
	}
	return -1
}

// stringOf is the string that s begins with, and how many bytes it has; it ends ahead of a part that is none.
func stringOf(s string) ([]rune, int) {
	var l []rune
	at := 0
	for {
		part := partForm.FindString(s[at:])
		switch {
		case part == "":
			return l, at
		case part[0] == '\\':
			n, _ := strconv.ParseInt(part[2:], 16, 64)
			if n > 0x10ffff || n >= 0xd800 && n < 0xe000 {
				return l, at
			}
			l = append(l, rune(n))
		case part == "''":
			l = append(l, '\'')
		default:
			l = append(l, []rune(strings.Trim(part, "'"))...)
		}
		at += len(part)
	}
}

func parseOf(s string) ([]api.Rule, int, api.Errno) {
	if len(s) > 65536 {
		return nil, 0, api.ErrLong
	}
	if at := noText(s); at >= 0 {
		return nil, at, api.ErrUTF
	}
	var out []api.Rule
	at, slash, ext := 0, false, false // whether a slash may stand here, and whether one stood ahead
	for wanted := "sign"; ; {
		at += len(nothingForm.FindString(s[at:]))
		if at == len(s) && wanted == "sign" {
			return out, 0, api.OK
		}
		if wanted == "sign" {
			sign := signForm.FindString(s[at:])
			kind := slices.Index(modelKinds, sign)
			switch {
			case sign == "/" && slash:
				slash, ext = false, true
			case kind < 0, kind > 0 && len(out) == 0:
				return nil, at, api.ErrRules
			case len(out) == 2000:
				return nil, at, api.ErrLong
			default:
				slash, ext = kind > 0, false
				out = append(out, api.Rule{Kind: kind})
			}
			at += len(sign)
			wanted = "string"
			continue
		}
		l, long := stringOf(s[at:])
		at += long
		if l == nil || at < len(s) && (s[at] == '\'' || s[at] == '\\') {
			return nil, at, api.ErrRules
		}
		if last := &out[len(out)-1]; ext {
			last.Ext = l
		} else {
			last.Text = l
		}
		wanted = "sign"
	}
}

func isCode(r rune) bool { return r >= 0 && r <= 0x10ffff && (r < 0xd800 || r > 0xdfff) }

func codesMayBe(l []rune) bool {
	for _, r := range l {
		if !isCode(r) {
			return false
		}
	}
	return true
}

func rulesErr(l []api.Rule) api.Errno {
	for i, x := range l {
		kind := x.Kind == 0 || x.Kind == 1 || x.Kind == 2 || x.Kind == 3 || x.Kind == 4
		if i == 0 && x.Kind != 0 || !kind || len(x.Text) == 0 || len(x.Ext) > 0 && x.Kind == 0 || !codesMayBe(x.Text) || !codesMayBe(x.Ext) {
			return api.ErrRules
		}
	}
	if len(l) > 2000 {
		return api.ErrLong
	}
	return api.OK
}

func startsWith(l, codes []rune) bool {
	return len(l) >= len(codes) && slices.Equal(l[:len(codes)], codes)
}

func lookupOf(s api.Source, l []rune) []api.Element {
	var out []api.Element
	for len(l) > 0 {
		best := -1
		for i, x := range s.Entries {
			if len(x.Codes) > 0 && startsWith(l, x.Codes) && (best < 0 || len(x.Codes) > len(s.Entries[best].Codes)) {
				best = i
			}
		}
		if best < 0 {
			out = append(out, weight.Implicit(l[0], s.Ranges)...)
			l = l[1:]
			continue
		}
		out = append(out, s.Entries[best].Elements...)
		l = l[len(s.Entries[best].Codes):]
	}
	return out
}

// raisedOf is what an element becomes where room is made behind x, and whether there is no room for it.
func raisedOf(y, x api.Element, level int) (api.Element, bool) {
	z := y
	if level == 1 && y.P > x.P && y.P < 0xfb00 {
		z.P = y.P + 1
		return z, z.P == 0xfb00
	}
	if level == 2 && y.P == x.P && y.S > x.S {
		z.S = y.S + 1
		return z, z.S > 0x1ff
	}
	if level == 3 && y.P == x.P && y.S == x.S && y.T > x.T {
		z.T = y.T + 1
		return z, z.T > 0x3f
	}
	return z, false
}

func nextOf(x api.Element, level int) (api.Element, bool) {
	switch level {
	case 1:
		return api.Element{P: x.P + 1, S: 0x20, T: 2, Var: x.Var}, x.P+1 == 0xfb00
	case 2:
		return api.Element{P: x.P, S: x.S + 1, T: 2, Var: x.Var}, x.S+1 > 0x1ff
	}
	return api.Element{P: x.P, S: x.S, T: x.T + 1, Var: x.Var}, x.T+1 > 0x3f
}

func behindOf(s api.Source, e []api.Element, level int) (api.Source, []api.Element, api.Errno) {
	at := -1
	for i, x := range e {
		own := weight.Level(x)
		if own == 1 || own == 2 && level >= 2 || own == 3 && level >= 3 {
			at = i
		}
	}
	if level != 1 && level != 2 && level != 3 || at < 0 || e[at].P >= 0xfb00 {
		return api.Source{}, nil, api.ErrReset
	}
	out, full := cloned(s), false
	raise := func(l []api.Element) {
		for i := range l {
			var none bool
			l[i], none = raisedOf(l[i], e[at], level)
			full = full || none
		}
	}
	for _, x := range out.Entries {
		raise(x.Elements)
	}
	all := slices.Clone(e)
	raise(all)
	next, none := nextOf(e[at], level)
	if full || none {
		return api.Source{}, nil, api.ErrRoom
	}
	return out, append(all[:at], next), api.OK
}

func applyOf(n *norms.Norms, s api.Source, l []api.Rule, version string) (api.Source, int, api.Errno) {
	if _, _, e := trie.New(s.Entries); e != api.OK {
		return api.Source{}, 0, e
	}
	if e := rulesErr(l); e != api.OK {
		return api.Source{}, 0, e
	}
	if e := weight.Ranges(s.Ranges); e != api.OK {
		return api.Source{}, 0, e
	}
	out := cloned(s)
	var anchor []api.Element
	for i, x := range l {
		text, e1 := norm.NFD(n, x.Text)
		ext, e2 := norm.NFD(n, x.Ext)
		if e1 != api.OK || e2 != api.OK || x.Kind != 0 && len(text) > 8 {
			return api.Source{}, i, api.ErrSeq
		}
		if x.Kind == 0 {
			anchor = lookupOf(out, text)
			continue
		}
		if x.Kind != 4 {
			var e api.Errno
			if out, anchor, e = behindOf(out, anchor, x.Kind); e != api.OK {
				return api.Source{}, i, e
			}
		}
		got := append(slices.Clone(anchor), lookupOf(out, ext)...)
		at := slices.IndexFunc(out.Entries, func(x api.Entry) bool { return slices.Equal(x.Codes, text) })
		if len(got) > 16 || at < 0 && len(out.Entries) == 4000 {
			return api.Source{}, i, api.ErrLong
		}
		if at < 0 {
			at = len(out.Entries)
			out.Entries = append(out.Entries, api.Entry{Codes: text})
		}
		out.Entries[at].Elements = got
	}
	out.Version = version
	return out, 0, api.OK
}

func pick[T any](r *rand.Rand, l []T) T { return l[r.Intn(len(l))] }

// Texts, P10.1 and P10.7

// holdParse holds Parse of a text against the model, and then that the rules are written, in no more bytes, and read again.
func holdParse(t testing.TB, s string) api.Errno {
	t.Helper()
	l, place, err := parseOf(s)
	got, at, e := tailor.Parse(s)
	if !slices.EqualFunc(got, l, sameRule) || at != place || e != err {
		t.Fatalf("Parse of %q: %v, place %d, error %d; want %v, place %d, error %d", s, got, at, e, l, place, err)
	}
	if e == api.OK {
		text := holdWrite(t, l)
		if len(text) > len(s) {
			t.Fatalf("Write of what %q is: %q", s, text)
		}
	}
	return e
}

// holdWrite holds that rules that may be are written as a text that Parse makes them of.
func holdWrite(t testing.TB, l []api.Rule) string {
	t.Helper()
	s, e := tailor.Write(l)
	if want := rulesErr(l); want != api.OK || e != api.OK {
		if e != want || s != "" {
			t.Fatalf("Write of %v: %q, error %d, want %d", l, s, e, want)
		}
		return ""
	}
	got, at, e := tailor.Parse(s)
	if !slices.EqualFunc(got, l, sameRule) || at != 0 || e != api.OK {
		t.Fatalf("Write of %v: %q, which is %v, place %d, error %d", l, s, got, at, e)
	}
	if again, _ := tailor.Write(got); again != s {
		t.Fatalf("Write of what Write tells: %q, not %q", again, s)
	}
	want(t, "Same", tailor.Same(got, l), true)
	return s
}

// Each text of a few bytes, and each behind a beginning that may be.
func TestEachShortText(t *testing.T) {
	const bytes = "&</#'\\ \na="
	var all func(s string, more int)
	all = func(s string, more int) {
		for _, ahead := range []string{"", "&a", "&a<b"} {
			holdParse(t, ahead+s)
		}
		if more > 0 {
			for _, c := range bytes {
				all(s+string(c), more-1)
			}
		}
	}
	all("", 5)
}

var fragments = []string{
	"&", "&a", "<", "<<", "<<<", "=", "/", "#", "'", "''", " ", "\n", "\t", "\r", "a", "b", "ab", "é", "\U0001f600", "\x00", `\`, `\u`, `\U`, `\u0041`, `\U01f600`, `\ud800`, `\U110000`, `\u004`, "'a b'", "'<&'", "# x\n", "&a<b", "<b", "=c/d", "/d", "\xff",
}

func TestAnyTexts(t *testing.T) {
	r := rand.New(rand.NewSource(1))
	kinds := map[api.Errno]int{}
	for range 200_000 {
		var s strings.Builder
		few := fragments[:len(fragments)-r.Intn(2)] // often a text
		for range r.Intn(12) {
			s.WriteString(pick(r, few))
		}
		kinds[holdParse(t, s.String())]++
	}
	for _, e := range []api.Errno{api.OK, api.ErrRules, api.ErrUTF} {
		if kinds[e] < 5000 {
			t.Errorf("error %d: %d times, which shows little", e, kinds[e])
		}
	}
}

// someText is a text of rules that mostly may be.
func someText(r *rand.Rand) string {
	var s strings.Builder
	nothing := func() { s.WriteString(pick(r, []string{"", "", " ", "\n", "\t", "# x\n", "#\n #'\n", "  "})) }
	part := func() {
		s.WriteString(pick(r, []string{"a", "b", "ch", "é", "\U0001f600", `\u0041`, `\U00e9ab`, "'x y'", "''", "'#'", "'\\'", "\r", `\u000a`}))
	}
	str := func() {
		nothing()
		for part(); r.Intn(3) == 0; {
			part()
		}
		nothing()
	}
	nothing()
	for range r.Intn(4) {
		s.WriteString("&")
		str()
		for range r.Intn(5) {
			s.WriteString(pick(r, []string{"<", "<<", "<<<", "="}))
			str()
			if r.Intn(3) == 0 {
				s.WriteString("/")
				str()
			}
		}
	}
	return s.String()
}

func TestTextsNearlySo(t *testing.T) {
	r := rand.New(rand.NewSource(2))
	good, bad := 0, 0
	for range 30_000 {
		s := someText(r)
		if holdParse(t, s) == api.OK {
			good++
		}
		b := []byte(s)
		for range 1 + r.Intn(2) {
			at := r.Intn(len(b) + 1)
			switch r.Intn(3) {
			case 0:
				b = slices.Insert(b, at, pick(r, []byte("&<=/#'\\ \nau0")))
			case 1:
				b = slices.Delete(b, at, min(at+1, len(b)))
			case 2:
				b = b[:at]
			}
		}
		if holdParse(t, string(b)) == api.ErrRules {
			bad++
		}
	}
	if good < 25_000 || bad < 8000 {
		t.Errorf("%d and %d, which shows little", good, bad)
	}
}

func TestAnyRulesAreWritten(t *testing.T) {
	r := rand.New(rand.NewSource(3))
	letters := []rune("ab'\n \t&<=/#\\é\r\x00\U0001f600u0'''\n")
	some := func() []rune {
		out := make([]rune, 1+r.Intn(6)>>r.Intn(3))
		for i := range out {
			out[i] = pick(r, letters)
		}
		if r.Intn(60) == 0 && len(out) > 0 {
			out[r.Intn(len(out))] = pick(r, []rune{-1, 0xd800, 0xdfff, 0x110000})
		}
		return out
	}
	kinds := map[api.Errno]int{}
	for range 50_000 {
		l := []api.Rule{{Text: some()}}
		for range r.Intn(6) {
			x := api.Rule{Kind: r.Intn(5), Text: some()}
			if x.Kind != 0 && r.Intn(2) == 0 || r.Intn(40) == 0 {
				x.Ext = some()
			}
			if r.Intn(60) == 0 {
				x.Kind = r.Intn(8) - 2
			}
			l = append(l, x)
		}
		holdWrite(t, l)
		kinds[rulesErr(l)]++
	}
	if kinds[api.OK] < 10_000 || kinds[api.ErrRules] < 3000 {
		t.Errorf("%v, which shows little", kinds)
	}
}

// Tables

// Few weights, so that many are alike or next to one another, and some have no room.
func someElements(r *rand.Rand, crowded bool) []api.Element {
	out := make([]api.Element, r.Intn(5)>>r.Intn(2))
	primaries, seconds, thirds := []int{0x10, 0x11, 0x12, 0x14, 0x20}, []int{0x20, 0x21, 0x23}, []int{2, 3, 8}
	if crowded {
		primaries, seconds, thirds = append(primaries, 0xfafd, 0xfafe, 0xfaff), append(seconds, 0x1fe, 0x1ff), append(thirds, 0x3e, 0x3f)
	}
	for i := range out {
		x := elem(pick(r, primaries), pick(r, seconds), pick(r, thirds))
		switch r.Intn(8) {
		case 0:
			x.Var = true
		case 1, 2:
			x.P = 0
		case 3:
			x.P, x.S = 0, 0
		case 4:
			if r.Intn(3) == 0 {
				x = api.Element{}
			}
		}
		out[i] = x
	}
	return out
}

var codes = []rune{'a', 'b', 'c', 'h', 0x301, 0x323, 0xe9, 0x4e00, 0x10ffff}

func someCodes(r *rand.Rand, most int) []rune {
	out := make([]rune, 1+r.Intn(most))
	for i := range out {
		out[i] = pick(r, codes[:3+r.Intn(len(codes)-2)])
	}
	return out
}

// someTable may be, and has so many entries at most.
func someTable(r *rand.Rand, most int) api.Source {
	s := source()
	crowded := r.Intn(4) == 0
	for range r.Intn(most + 1) {
		x := api.Entry{Codes: someCodes(r, 1+r.Intn(3)), Elements: someElements(r, crowded)}
		if !slices.ContainsFunc(s.Entries, func(y api.Entry) bool { return slices.Equal(x.Codes, y.Codes) }) {
			s.Entries = append(s.Entries, x)
		}
	}
	return s
}

// anyTable need not be such as may be.
func anyTable(r *rand.Rand) api.Source {
	s := someTable(r, 12)
	for range r.Intn(3) {
		x := api.Entry{Codes: pick(r, [][]rune{nil, {-1}, {0xd800, 'a'}, {'a'}, []rune(strung(12)), {'a', 'b'}})}
		for range r.Intn(20) {
			x.Elements = append(x.Elements, elem(r.Intn(0x10004)-3, r.Intn(0x203)-2, r.Intn(0x43)-2))
		}
		s.Entries = slices.Insert(s.Entries, r.Intn(len(s.Entries)+1), x)
	}
	if r.Intn(3) == 0 {
		s.Ranges = []api.Implicit{{From: 'b', To: 'a', Base: 7}, {From: 'b', To: 'c', Base: 0xfb00, Whole: true}, {From: 'a', To: 'h', Base: 5}}[r.Intn(2):]
	}
	return s
}

func TestLookupInAnyTables(t *testing.T) {
	r := rand.New(rand.NewSource(4))
	for range 20_000 {
		s := anyTable(r)
		l := someCodes(r, 12)
		if r.Intn(4) == 0 {
			l[r.Intn(len(l))] = pick(r, []rune{-1, 0xd800, 0x110000})
		}
		wantLookup(t, s, l, lookupOf(s, l)...)
	}
}

// someAnchor is what something may come behind.
func someAnchor(r *rand.Rand, s api.Source) []api.Element {
	if r.Intn(3) == 0 {
		return someElements(r, r.Intn(2) == 0)
	}
	return lookupOf(s, someCodes(r, 3))
}

func holdBehind(t testing.TB, s api.Source, e []api.Element, level int) api.Errno {
	t.Helper()
	was := cloned(s)
	whole, next, err := behindOf(s, e, level)
	got, l, x := tailor.Behind(s, e, level)
	if !sameSource(got, whole) || !slices.Equal(l, next) || x != err {
		t.Fatalf("Behind %s, level %d, in %s: %s\n%s, error %d; want %s\n%s, error %d", showElements(e), level, showSource(s), showSource(got), showElements(l), x, showSource(whole), showElements(next), err)
	}
	want(t, "what was given", sameSource(s, was), true)
	return x
}

func TestBehindInAnyTables(t *testing.T) {
	r := rand.New(rand.NewSource(5))
	kinds := map[api.Errno]int{}
	for range 50_000 {
		s := someTable(r, 8)
		if r.Intn(3) == 0 {
			s = anyTable(r)
		}
		e := someAnchor(r, s)
		if r.Intn(6) == 0 && len(e) > 0 {
			e[r.Intn(len(e))] = elem(r.Intn(0x10004)-3, r.Intn(0x203)-2, r.Intn(0x43)-2)
		}
		level := 1 + r.Intn(3)
		if r.Intn(20) == 0 {
			level = r.Intn(7) - 2
		}
		kinds[holdBehind(t, s, e, level)]++
	}
	for _, e := range []api.Errno{api.OK, api.ErrReset, api.ErrRoom} {
		if kinds[e] < 2000 {
			t.Errorf("error %d: %d times, which shows little", e, kinds[e])
		}
	}
}

// P10.5 and P10.6

// elementsOf are all that a table has.
func elementsOf(s api.Source) []api.Element {
	var out []api.Element
	for _, x := range s.Entries {
		out = append(out, x.Elements...)
	}
	return out
}

// upTo are the weights up to a level.
func upTo(x api.Element, level int) api.Element {
	x.Var = false
	if level < 3 {
		x.T = 0
	}
	if level < 2 {
		x.S = 0
	}
	return x
}

func TestRoomIsMade(t *testing.T) {
	r := rand.New(rand.NewSource(6))
	made := 0
	for range 20_000 {
		s := someTable(r, 8)
		e, level := someAnchor(r, s), 1+r.Intn(3)
		got, next, err := tailor.Behind(s, e, level)
		if err != api.OK {
			continue
		}
		made++
		was, is := elementsOf(s), elementsOf(got)
		for i := range was {
			for j := range was {
				if weight.Compare(was[i], was[j]) != weight.Compare(is[i], is[j]) {
					t.Fatalf("%s and %s, which were %s and %s", weight.Show(is[i]), weight.Show(is[j]), weight.Show(was[i]), weight.Show(was[j]))
				}
			}
		}
		at := len(next) - 1
		of, last := e[at], next[at] // what counts stands where the new one does
		for _, x := range is {
			if c := weight.Compare(upTo(x, level), upTo(of, level)); upTo(x, level) == upTo(last, level) || c > 0 && weight.Compare(upTo(x, level), upTo(last, level)) < 0 {
				t.Fatalf("%s, where %s is behind %s at level %d", weight.Show(x), weight.Show(last), weight.Show(of), level)
			}
		}
		first := 0
		for e[first] == next[first] {
			first++
		}
		if weight.Compare(upTo(e[first], level), upTo(next[first], level)) >= 0 || upTo(e[first], level-1) != upTo(next[first], level-1) && level > 1 {
			t.Fatalf("Behind %s, level %d: %s", showElements(e), level, showElements(next))
		}
	}
	if made < 5000 {
		t.Errorf("%d times, which shows little", made)
	}
}

// Rules, P10.4 and P10.8

func someRules(r *rand.Rand) []api.Rule {
	var out []api.Rule
	for range r.Intn(8) {
		x := api.Rule{Kind: r.Intn(5), Text: someCodes(r, 1+r.Intn(3))}
		if len(out) == 0 && r.Intn(20) > 0 {
			x.Kind = 0
		}
		if x.Kind != 0 && r.Intn(4) == 0 || r.Intn(60) == 0 {
			x.Ext = someCodes(r, 3)
		}
		switch r.Intn(80) {
		case 0:
			x.Kind = r.Intn(9) - 2
		case 1:
			x.Text = someCodes(r, 20)
		case 2:
			x.Text[0] = 0xd800
		case 3:
			x.Ext = someCodes(r, 40)
		}
		out = append(out, x)
	}
	return out
}

func holdApply(t testing.TB, n *norms.Norms, s api.Source, l []api.Rule) (api.Source, api.Errno) {
	t.Helper()
	was := cloned(s)
	whole, place, err := applyOf(n, s, l, "new")
	got, at, e := tailor.Apply(n, s, l, "new")
	if !sameSource(got, whole) || at != place || e != err {
		t.Fatalf("Apply of %v to %s: %s\nplace %d, error %d; want %s\nplace %d, error %d", l, showSource(s), showSource(got), at, e, showSource(whole), place, err)
	}
	want(t, "what was given", sameSource(s, was), true)
	return got, e
}

// holdOthers holds P10.8: what no rule names.
func holdOthers(t testing.TB, n *norms.Norms, s, got api.Source, l []api.Rule) {
	t.Helper()
	var was, is []api.Element
	for i, x := range s.Entries {
		if !slices.ContainsFunc(l, func(y api.Rule) bool {
			text, _ := norm.NFD(n, y.Text)
			return y.Kind != 0 && slices.Equal(text, x.Codes)
		}) {
			was, is = append(was, x.Elements...), append(is, got.Entries[i].Elements...)
		}
		if !slices.Equal(x.Codes, got.Entries[i].Codes) {
			t.Fatalf("entry %d: %v, which was %v", i, got.Entries[i], x)
		}
	}
	if len(was) != len(is) {
		t.Fatalf("%d elements, which were %d", len(is), len(was))
	}
	for i := range was {
		for j := range was {
			if weight.Compare(was[i], was[j]) != weight.Compare(is[i], is[j]) {
				t.Fatalf("%s and %s, which were %s and %s", weight.Show(is[i]), weight.Show(is[j]), weight.Show(was[i]), weight.Show(was[j]))
			}
		}
	}
}

func TestApplyToAnyTables(t *testing.T) {
	r := rand.New(rand.NewSource(7))
	kinds := map[api.Errno]int{}
	for range 50_000 {
		n := data(t)
		if r.Intn(5) == 0 {
			n = nil
		}
		s := someTable(r, 10)
		if r.Intn(6) == 0 {
			s = anyTable(r)
		}
		l := someRules(r)
		got, e := holdApply(t, n, s, l)
		kinds[e]++
		if e == api.OK {
			holdOthers(t, n, s, got, l)
		}
	}
	for _, e := range []api.Errno{api.OK, api.ErrRules, api.ErrLong, api.ErrImpl, api.ErrSeq, api.ErrTwin, api.ErrWeight, api.ErrReset, api.ErrRoom} {
		if kinds[e] < 100 {
			t.Errorf("error %d: %d times, which shows little", e, kinds[e])
		}
	}
}

// tableFrom makes a table of bytes, such as may be and others.
func tableFrom(b []byte) api.Source {
	s := source()
	for len(b) > 0 {
		head := b[0]
		long, many := min(int(head&3), len(b)-1), int(head>>2)%6
		x := api.Entry{}
		for _, c := range b[1 : 1+long] {
			x.Codes = append(x.Codes, codes[int(c)%len(codes)])
		}
		b = b[1+long:]
		for ; many > 0 && len(b) >= 3; many-- {
			x.Elements = append(x.Elements, api.Element{P: int(b[0]) * 0x100 * int(b[1]&1), S: int(b[1]) * 2, T: int(b[2]) % 0x42, Var: b[2] > 200})
			b = b[3:]
		}
		s.Entries = append(s.Entries, x)
	}
	return s
}

func FuzzParse(f *testing.F) {
	for _, s := range append(slices.Clone(fragments), "&a < b << c", `& 'x y' = \u0041/z`, "&a#\n<<<b'c'/d&\\U01f600=''", "&a<b/c d") {
		f.Add(s)
	}
	f.Fuzz(func(t *testing.T, s string) { holdParse(t, s) })
}

func FuzzApply(f *testing.F) {
	f.Add([]byte{}, "&a<b<<c<<<h=b/a")
	f.Add([]byte{5, 0, 7, 3, 2, 9, 1, 8, 5, 2}, "&é<a&b<<c")
	f.Add([]byte("\x05\x00\x10\x11\x02\x09\x01\x02\x10\x15\x02\x11\x13\x03"), "&ab<a<b&a<<\u0301/b")
	f.Fuzz(func(t *testing.T, b []byte, text string) {
		if len(b) > 500 || len(text) > 500 {
			return // the model is slow
		}
		l, _, _ := tailor.Parse(text)
		s := tableFrom(b)
		n := data(t)
		if got, e := holdApply(t, n, s, l); e == api.OK {
			holdOthers(t, n, s, got, l)
		}
		for _, x := range l {
			for level := range 5 {
				holdBehind(t, s, lookupOf(s, x.Text), level)
			}
		}
	})
}
