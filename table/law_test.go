package table_test

import (
	"fmt"
	"math"
	"math/rand"
	"regexp"
	"slices"
	"strconv"
	"strings"
	"testing"

	"lectern/api"
	"lectern/table"
	"lectern/weight"
)

// The model: the chapter's words one by one, by forms, and by comparing each with each.

var (
	codesForm    = regexp.MustCompile(`^[ \t]*[0-9A-F]{4,6}([ \t]+[0-9A-F]{4,6})*[ \t]*$`)
	numberForm   = regexp.MustCompile(`[0-9A-F]+`)
	entryForm    = regexp.MustCompile(`^([^;#\n]*);([^#\n]*)$`)
	elementForm  = regexp.MustCompile(`^\[[.*][0-9A-F]{4}\.[0-9A-F]{4}\.[0-9A-F]{4}\]`)
	versionForm  = regexp.MustCompile(`(?s)^@version[ \t]+([^ \t]+)$`)
	rangeForm    = regexp.MustCompile(`^@(implicitweights|unified)[ \t]+([0-9A-F]{4,6})\.\.([0-9A-F]{4,6})[ \t]*;[ \t]*([0-9A-F]{4})$`)
	versionBytes = regexp.MustCompile(`^[!-~]{1,32}$`)
)

func hex(s string) int {
	n, e := strconv.ParseInt(s, 16, 64)
	if e != nil {
		panic(e)
	}
	return int(n)
}

func isCode(r rune) bool { return r >= 0 && r <= 0x10ffff && (r < 0xd800 || r > 0xdfff) }

func codesErr(l []rune) api.Errno {
	if len(l) < 1 || len(l) > 8 {
		return api.ErrSeq
	}
	for _, r := range l {
		if !isCode(r) {
			return api.ErrSeq
		}
	}
	return api.OK
}

func codesOf(s string) ([]rune, api.Errno) {
	if !codesForm.MatchString(s) {
		return nil, api.ErrLine
	}
	var l []rune
	for _, n := range numberForm.FindAllString(s, -1) {
		l = append(l, rune(hex(n)))
	}
	if e := codesErr(l); e != api.OK {
		return nil, e
	}
	return l, api.OK
}

func readLineOf(s string) (api.Entry, api.Errno) {
	parts := entryForm.FindStringSubmatch(s)
	if parts == nil {
		return api.Entry{}, api.ErrLine
	}
	codes, e := codesOf(parts[1])
	if e != api.OK {
		return api.Entry{}, e
	}
	var l []api.Element
	for rest := strings.Trim(parts[2], " \t"); rest != ""; {
		form := elementForm.FindString(rest)
		if form == "" {
			return api.Entry{}, api.ErrLine
		}
		x := elem(hex(form[2:6]), hex(form[7:11]), hex(form[12:16]))
		x.Var = form[1] == '*'
		if weight.Check(x) != api.OK || x == elem(0, 0, 0) {
			return api.Entry{}, api.ErrWeight
		}
		l = append(l, x)
		rest = strings.TrimLeft(rest[len(form):], " \t")
	}
	if len(l) > 16 {
		return api.Entry{}, api.ErrLong
	}
	return entry(codes, l...), api.OK
}

func parseOf(s string) (api.Source, int, api.Errno) {
	if len(s) > 4194304 {
		return api.Source{}, 0, api.ErrLong
	}
	var out api.Source
	for i, line := range strings.Split(s, "\n") {
		line = strings.TrimSuffix(line, "\r")
		if at := strings.IndexByte(line, '#'); at >= 0 {
			line = line[:at]
		}
		if line = strings.Trim(line, " \t"); line == "" {
			continue
		}
		if e := lineOf(&out, line); e != api.OK {
			return api.Source{}, i + 1, e
		}
	}
	if out.Version == "" {
		return api.Source{}, 0, api.ErrVersion
	}
	for i := range out.Ranges { // one by one to where it stands
		for at := i; at > 0 && out.Ranges[at-1].From > out.Ranges[at].From; at-- {
			out.Ranges[at-1], out.Ranges[at] = out.Ranges[at], out.Ranges[at-1]
		}
	}
	if e := weight.Ranges(out.Ranges); e != api.OK {
		return api.Source{}, 0, e
	}
	return out, 0, api.OK
}

func lineOf(out *api.Source, line string) api.Errno {
	if v := versionForm.FindStringSubmatch(line); v != nil {
		if out.Version != "" {
			return api.ErrLine
		}
		if !versionBytes.MatchString(v[1]) {
			return api.ErrVersion
		}
		out.Version = v[1]
		return api.OK
	}
	if x := rangeForm.FindStringSubmatch(line); x != nil {
		from, to := hex(x[2]), hex(x[3])
		if from > 0x10ffff || to > 0x10ffff {
			return api.ErrSeq
		}
		out.Ranges = append(out.Ranges, api.Implicit{From: rune(from), To: rune(to), Base: hex(x[4]), Whole: x[1] == "implicitweights"})
		return api.OK
	}
	x, e := readLineOf(line)
	if e != api.OK {
		return e
	}
	for _, ahead := range out.Entries {
		if slices.Equal(ahead.Codes, x.Codes) {
			return api.ErrTwin
		}
	}
	if len(out.Entries) == 4000 {
		return api.ErrLong
	}
	out.Entries = append(out.Entries, x)
	return api.OK
}

func checkOf(x api.Source) (int, api.Errno) {
	switch {
	case !versionBytes.MatchString(x.Version):
		return 0, api.ErrVersion
	case strings.Contains(x.Version, "#"):
		return 0, api.ErrLine
	case len(x.Entries) > 4000:
		return 0, api.ErrLong
	}
	if e := weight.Ranges(x.Ranges); e != api.OK {
		return 0, e
	}
	for i, one := range x.Entries {
		if e := codesErr(one.Codes); e != api.OK {
			return i, e
		}
		if len(one.Elements) > 16 {
			return i, api.ErrLong
		}
		for _, l := range one.Elements {
			if weight.Check(l) != api.OK || l.P == 0 && l.S == 0 && l.T == 0 {
				return i, api.ErrWeight
			}
		}
		for _, ahead := range x.Entries[:i] {
			if slices.Equal(ahead.Codes, one.Codes) {
				return i, api.ErrTwin
			}
		}
	}
	return 0, api.OK
}

func showOf(l []rune) string {
	var words []string
	for _, r := range l {
		words = append(words, fmt.Sprintf("%04X", uint32(r)))
	}
	return strings.Join(words, " ")
}

func lineText(x api.Entry) string {
	s := showOf(x.Codes) + " ; "
	for _, e := range x.Elements {
		mark := "."
		if e.Var {
			mark = "*"
		}
		s += fmt.Sprintf("[%s%04X.%04X.%04X]", mark, e.P, e.S, e.T)
	}
	return s
}

func textOf(x api.Source) string {
	s := "@version " + x.Version + "\n"
	for _, l := range x.Ranges {
		word := map[bool]string{true: "implicitweights", false: "unified"}[l.Whole]
		s += fmt.Sprintf("@%s %04X..%04X; %04X\n", word, l.From, l.To, l.Base)
	}
	for _, e := range x.Entries {
		s += lineText(e) + "\n"
	}
	return s
}

// What all is held against it.

func goodElement(r *rand.Rand) api.Element {
	e := elem(1+r.Intn(0xfaff)>>r.Intn(16), 1+r.Intn(0x1ff), 1+r.Intn(0x3f))
	switch r.Intn(5) {
	case 0:
		e.P = 0
	case 1:
		e.P, e.S = 0, 0
	case 2:
		e.Var = true
	}
	return e
}

func goodCode(r *rand.Rand) rune {
	n := rune(r.Intn(0x110000) >> r.Intn(21))
	if n >= 0xd800 && n <= 0xdfff {
		return []rune{0, 0xd7ff, 0xe000, 0x10ffff}[r.Intn(4)]
	}
	return n
}

func goodEntry(r *rand.Rand) api.Entry {
	x := entry([]rune{goodCode(r)})
	for len(x.Codes) < 8 && r.Intn(3) == 0 {
		x.Codes = append(x.Codes, goodCode(r))
	}
	for len(x.Elements) < 16 && r.Intn(3) > 0 {
		x.Elements = append(x.Elements, goodElement(r))
	}
	return x
}

func goodRanges(r *rand.Rand) []api.Implicit {
	var l []api.Implicit
	for at := rune(r.Intn(0x11000)); at <= 0x10ffff && len(l) < 100 && r.Intn(5) > 0; {
		x := split(at, min(at+rune(r.Intn(0x40000)>>r.Intn(19)), 0x10ffff), []int{0xfb40, 0xfb80}[r.Intn(2)])
		if r.Intn(2) == 0 {
			x = whole(at, min(x.To, at+0x7fff), 0xfb00+r.Intn(0x40))
		}
		l = append(l, x)
		at = x.To + 1 + rune(r.Intn(2)*r.Intn(0x1000))
	}
	return l
}

func goodVersion(r *rand.Rand) string {
	b := make([]byte, 1+r.Intn(32)>>r.Intn(4))
	for i := range b {
		for b[i] = '#'; b[i] == '#'; {
			b[i] = byte(33 + r.Intn(94))
		}
	}
	return string(b)
}

// goodTable is such as Check takes: without twins.
func goodTable(r *rand.Rand) api.Source {
	x := api.Source{Version: goodVersion(r), Ranges: goodRanges(r)}
	for range r.Intn(8) {
		if e := goodEntry(r); !slices.ContainsFunc(x.Entries, func(a api.Entry) bool { return slices.Equal(a.Codes, e.Codes) }) {
			x.Entries = append(x.Entries, e)
		}
	}
	return x
}

func someRune(r *rand.Rand) rune {
	return []rune{-1, 0, 1, 0x41, 0xd7ff, 0xd800, 0xdfff, 0xe000, 0x10ffff, 0x110000, math.MinInt32, math.MaxInt32, rune(r.Uint32())}[r.Intn(13)]
}

// spoilt is a table with one thing changed, which mostly may not be.
func spoilt(r *rand.Rand, x api.Source) api.Source {
	if len(x.Entries) == 0 || r.Intn(6) == 0 {
		switch r.Intn(3) {
		case 0:
			x.Version = []string{"", "#", "a#", " ", "a b", strings.Repeat("x", 33), "é", "a\x7f"}[r.Intn(8)]
		case 1:
			x.Ranges = append(x.Ranges, api.Implicit{From: someRune(r), To: someRune(r), Base: 0xfb00 + r.Intn(0x100), Whole: r.Intn(2) == 0})
		case 2:
			x.Entries = append(x.Entries, api.Entry{})
		}
		return x
	}
	e := &x.Entries[r.Intn(len(x.Entries))]
	switch r.Intn(6) {
	case 0:
		e.Codes = append(e.Codes, someRune(r))
	case 1:
		e.Codes = make([]rune, r.Intn(11))
	case 2:
		e.Elements = append(e.Elements, api.Element{P: r.Intn(3) - 1, S: r.Intn(0x202) - 1, T: r.Intn(0x42) - 1, Var: r.Intn(2) == 0})
	case 3:
		e.Elements = make([]api.Element, r.Intn(20))
		for i := range e.Elements {
			e.Elements[i] = goodElement(r)
		}
	default:
		x.Entries = append(x.Entries, entry(slices.Clone(e.Codes), goodElement(r)))
	}
	return x
}

func TestAnyTables(t *testing.T) {
	r := rand.New(rand.NewSource(1))
	for range 10_000 {
		x := goodTable(r)
		for spoil := range 4 {
			number, err := checkOf(x)
			if spoil == 0 && err != api.OK {
				t.Fatalf("%v: error %d", x, err)
			}
			if got, e := table.Check(x); got != number || e != err {
				t.Fatalf("Check of %v: %d, error %d; want %d, error %d", x, got, e, number, err)
			}
			text := ""
			if err == api.OK {
				text = textOf(x)
			}
			if got, e := table.Write(x); got != text || e != err {
				t.Fatalf("Write of %v: %q, error %d; want %q, error %d", x, got, e, text, err)
			}
			holdEntries(t, x)
			x = spoilt(r, x)
		}
	}
}

func holdEntries(t *testing.T, x api.Source) {
	t.Helper()
	i := 0
	for codes, elements := range table.Each(x) {
		if codes != showOf(x.Entries[i].Codes) || !slices.Equal(elements, x.Entries[i].Elements) {
			t.Fatalf("Each of %v: %s, %v at %d", x, codes, elements, i)
		}
		i++
	}
	want(t, "entries that were told", i, len(x.Entries))
	for _, e := range x.Entries {
		first := 0
		for showOf(x.Entries[first].Codes) != showOf(e.Codes) {
			first++
		}
		wantFind(t, x, e.Codes, first, true)
		line, err := table.Line(e)
		if _, wantE := checkOf(with(e)); err != wantE || err == api.OK && line != lineText(e) {
			t.Fatalf("Line of %v: %q, error %d; want error %d", e, line, err, wantE)
		}
	}
}

// P8.7

func TestThereAndBack(t *testing.T) {
	r := rand.New(rand.NewSource(2))
	for range 20_000 {
		x := goodTable(r)
		s, e := table.Write(x)
		wantErr(t, "Write", e, api.OK)
		back, at, e := table.Parse(s)
		if !same(back, x) || at != 0 || e != api.OK {
			t.Fatalf("%v is %q, and that %v, line %d, error %d", x, s, back, at, e)
		}
		if again, _ := table.Write(back); again != s {
			t.Fatalf("%v is %q, and that %q", x, s, again)
		}
		for _, one := range x.Entries {
			line, _ := table.Line(one)
			if got, e := table.ReadLine(line); !sameEntry(got, one) || e != api.OK {
				t.Fatalf("%v is %q, and that %v, error %d", one, line, got, e)
			}
			if got, e := table.Codes(table.Show(one.Codes)); !slices.Equal(got, one.Codes) || e != api.OK {
				t.Fatalf("Codes of Show of %x: %x, error %d", one.Codes, got, e)
			}
		}
	}
}

// P8.8

func holdParse(t *testing.T, s string) {
	t.Helper()
	x, line, err := parseOf(s)
	if got, at, e := table.Parse(s); !same(got, x) || at != line || e != err {
		t.Fatalf("Parse of %q: %v, line %d, error %d; want %v, line %d, error %d", s, got, at, e, x, line, err)
	}
}

func holdLine(t *testing.T, s string) {
	t.Helper()
	x, err := readLineOf(s)
	if got, e := table.ReadLine(s); !sameEntry(got, x) || e != err {
		t.Fatalf("ReadLine of %q: %v, error %d; want %v, error %d", s, got, e, x, err)
	}
	l, err := codesOf(s)
	if got, e := table.Codes(s); !slices.Equal(got, l) || e != err {
		t.Fatalf("Codes of %q: %x, error %d; want %x, error %d", s, got, e, l, err)
	}
}

// laid is a text with remarks, blanks and empty lines, and where each of its lines stands in it then.
func laid(r *rand.Rand, s string) (string, []int) {
	blanks := func() string { return strings.Repeat(" ", r.Intn(3)) + strings.Repeat("\t", r.Intn(2)) }
	remarks := []string{"", "", "", "#", "##", "# A", "#;\xff\x00", "# @version 5", "#\r x"}
	ends := []string{"\n", "\n", "\r\n"}
	var out strings.Builder
	at, line := []int{0}, 0
	for _, one := range strings.Split(strings.TrimSuffix(s, "\n"), "\n") {
		for r.Intn(3) == 0 {
			out.WriteString(blanks() + remarks[r.Intn(len(remarks))] + ends[r.Intn(3)])
			line++
		}
		out.WriteString(blanks() + one + blanks() + remarks[r.Intn(len(remarks))] + ends[r.Intn(3)])
		line++
		at = append(at, line)
	}
	return out.String(), at
}

func TestWhatCountsNothing(t *testing.T) {
	r := rand.New(rand.NewSource(3))
	for range 20_000 {
		s := textOf(goodTable(r))
		if r.Intn(2) == 0 {
			s = changed(r, s)
		}
		if strings.Contains(s, "\r") {
			continue // which is nothing only where the line ends
		}
		x, line, err := table.Parse(s)
		other, at := laid(r, s)
		if line >= len(at) {
			t.Fatalf("Parse of %q: line %d", s, line)
		}
		if got, now, e := table.Parse(other); !same(got, x) || e != err || now != at[line] {
			t.Fatalf("Parse of %q: %v, line %d, error %d; but of %q: %v, line %d, error %d", s, x, line, err, other, got, now, e)
		}
	}
}

// changed is a text with few bytes or lines changed.
func changed(r *rand.Rand, s string) string {
	const chars = "0123456789ABCDEFabfG....;;;##@@[]** \t\t\n\n\r\v\x00\xffé+-"
	b := []byte(s)
	for range 1 + r.Intn(2) {
		at := r.Intn(len(b))
		c := chars[r.Intn(len(chars))]
		switch r.Intn(3) {
		case 0:
			b[at] = c
		case 1:
			b = slices.Insert(b, at, c)
		case 2:
			b = slices.Delete(b, at, min(at+1+r.Intn(3), len(b)))
		}
		if len(b) == 0 {
			return "x"
		}
	}
	lines := strings.Split(string(b), "\n")
	if i, j := r.Intn(len(lines)), r.Intn(len(lines)); r.Intn(2) == 0 {
		lines[i], lines[j] = lines[j], lines[i]
	} else if r.Intn(4) == 0 {
		lines[i] = lines[j]
	}
	return strings.Join(lines, "\n")
}

func TestTextsNearlySo(t *testing.T) {
	r := rand.New(rand.NewSource(4))
	kinds := map[api.Errno]int{}
	for range 30_000 {
		s := changed(r, textOf(goodTable(r)))
		holdParse(t, s)
		for line := range strings.SplitSeq(s, "\n") {
			holdLine(t, line)
		}
		_, _, e := table.Parse(s)
		kinds[e]++
	}
	for _, e := range []api.Errno{api.OK, api.ErrLine, api.ErrSeq, api.ErrWeight, api.ErrTwin, api.ErrVersion, api.ErrImpl} {
		if kinds[e] < 50 {
			t.Errorf("error %d: %d times, which shows little", e, kinds[e])
		}
	}
}

// Texts of few words in any order.
func TestTextsOfAnyWords(t *testing.T) {
	words := []string{
		"@version", "@implicitweights", "@unified", "@", "1", "0041", "0042", "D800", "110000", "10FFFF", "0041..0042", "0005..110000", "0009..0003", "..", ";", ";", "FB40", "FB00", "FB80",
		"[.0001.0001.0001]", "[.0000.0000.0000]", "[*0000.0001.0001]", "[.FB00.0020.0002]", "[", " ", " ", " ", "\t", "\n", "\n", "\n", "\r", "\r\n", "#", "\xff",
	}
	r := rand.New(rand.NewSource(5))
	for range 100_000 {
		var out strings.Builder
		if r.Intn(2) == 0 {
			out.WriteString("@version 1\n")
		}
		for range r.Intn(12) {
			out.WriteString(words[r.Intn(len(words))])
		}
		holdParse(t, out.String())
		holdLine(t, out.String())
	}
}

// Each byte at each place of some lines.
func TestTextsOfAllBytes(t *testing.T) {
	for _, s := range []string{"@version 1\n0041 0301 ;[.1C47.0020.0008]\r\n", "@version 1\n@unified 3400..4DB5 ; FB80", "@implicitweights 17000..187EC;FB00\n@version 1"} {
		for at := range len(s) {
			for c := range 256 {
				b := []byte(s)
				b[at] = byte(c)
				holdParse(t, string(b))
				holdParse(t, string(slices.Delete(b, at, at+1)))
				holdParse(t, string(slices.Insert([]byte(s), at, byte(c))))
			}
		}
	}
	const line = "\t0041 0301 ; [.1C47.0020.0008] "
	for at := range len(line) {
		for c := range 256 {
			b := []byte(line)
			b[at] = byte(c)
			holdLine(t, string(b))
			holdLine(t, string(slices.Insert([]byte(line), at, byte(c))))
		}
	}
}

func FuzzParse(f *testing.F) {
	for _, s := range []string{"", someText(), "@version 1\r\n 0041\t0301;[.0001.0001.0001] # A", "@unified 0041..0042;FB40", "@version 1\n@version 1", "0041;\n0041;", "D800;[.FB00.0020.0002]"} {
		f.Add(s)
	}
	f.Fuzz(func(t *testing.T, s string) {
		holdParse(t, s)
		holdLine(t, s)
		if x, _, e := table.Parse(s); e == api.OK {
			text, e := table.Write(x)
			wantErr(t, "Write of what was read", e, api.OK)
			wantParse(t, text, x)
		}
	})
}
