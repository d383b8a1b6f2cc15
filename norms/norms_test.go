package norms_test

import (
	"bytes"
	"math"
	"slices"
	"strconv"
	"sync"
	"testing"

	"lectern/api"
	"lectern/norms"
)

func wantErr(t testing.TB, what string, got, want api.Errno) {
	t.Helper()
	if got != want {
		t.Errorf("%s: error %d, want %d", what, got, want)
	}
}

func want[T comparable](t testing.TB, what string, got, want T) {
	t.Helper()
	if got != want {
		t.Errorf("%s: %v, want %v", what, got, want)
	}
}

func wantList[T comparable](t testing.TB, what string, got, want []T) {
	t.Helper()
	if !slices.Equal(got, want) {
		t.Errorf("%s: %v, want %v", what, got, want)
	}
}

// build is Build of what has to succeed, load is Load of that.
func build(t testing.TB, c []api.Class, d []api.Decomp) []byte {
	t.Helper()
	b, e := norms.Build(c, d)
	if e != api.OK {
		t.Fatalf("Build of %x, %x: error %d", c, d, e)
	}
	return b
}

func load(t testing.TB, b []byte) *norms.Norms {
	t.Helper()
	n, e := norms.Load(b)
	if e != api.OK || n == nil {
		t.Fatalf("Load of % x: error %d", b, e)
	}
	return n
}

func made(t testing.TB, c []api.Class, d []api.Decomp) *norms.Norms {
	t.Helper()
	return load(t, build(t, c, d))
}

// hex is a number as the chapter writes it.
func hex(r rune) string { return strconv.FormatInt(int64(r), 16) }

// decomps are all that Decomps tells.
func decomps(n *norms.Norms) []api.Decomp { return slices.Collect(n.Decomps()) }

// notMade are data that Load did not make.
func notMade() []*norms.Norms { return []*norms.Norms{nil, {}, new(norms.Norms)} }

// one is a range of one code point.
func one(r rune, class int) api.Class { return api.Class{From: r, To: r, Class: class} }

// chain is as many decompositions as there are steps, one within another: begin to begin + 1 and so on.
func chain(begin rune, steps int) []api.Decomp {
	var out []api.Decomp
	for i := range rune(steps) {
		out = append(out, api.Decomp{Code: begin + i, A: begin + i + 1, B: 'b'})
	}
	return out
}

// P5.1

func TestBuild(t *testing.T) {
	for _, c := range []struct {
		what    string
		classes []api.Class
		decomps []api.Decomp
		want    string
	}{
		{"nothing", nil, nil, "NRM1\x00\x00"},
		{"empty lists", []api.Class{}, []api.Decomp{}, "NRM1\x00\x00"},
		{"a class", []api.Class{{From: 0x300, To: 0x314, Class: 230}}, nil, "NRM1\x01\x80\x06\x94\x06\xe6\x01\x00"},
		{"a decomposition", nil, []api.Decomp{{Code: 0xe9, A: 0x65, B: 0x301}}, "NRM1\x00\x01\xe9\x01\x65\x81\x06"},
		{"without a B", nil, []api.Decomp{{Code: 0x2126, A: 0x3a9}}, "NRM1\x00\x01\xa6\x42\xa9\x07\x00"},
		{"the last code point", []api.Class{{From: 0, To: 0x10ffff, Class: 1}}, []api.Decomp{{Code: 0, A: 0x10ffff, B: 0x10fffe}},
			"NRM1\x01\x00\xff\xff\x43\x01\x01\x00\xff\xff\x43\xfe\xff\x43"},
		{"two of each", []api.Class{one(1, 254), one(2, 1)}, []api.Decomp{{Code: 3, A: 4}, {Code: 5, A: 3, B: 6}},
			"NRM1\x02\x01\x01\xfe\x01\x02\x02\x01\x02\x03\x04\x00\x05\x03\x06"},
	} {
		b, e := norms.Build(c.classes, c.decomps)
		wantErr(t, c.what, e, api.OK)
		if !bytes.Equal(b, frameOf([]byte(c.want))) {
			t.Errorf("%s: % x, want % x", c.what, b, frameOf([]byte(c.want)))
		}
	}
}

func TestClassesThatMayBe(t *testing.T) {
	for _, c := range [][]api.Class{
		{one(0, 1)}, {one(0, 254)}, {one(0x10ffff, 230)}, {one(0xd7ff, 1)}, {one(0xe000, 1)},
		{{From: 0xd7ff, To: 0xe000, Class: 5}}, // both ends are code points
		{{From: 0, To: 0x10ffff, Class: 254}},
		{{From: 1, To: 3, Class: 9}, {From: 4, To: 4, Class: 9}, {From: 6, To: 7, Class: 8}},
		{one(0xac00, 7), one(0x1f600, 7)},
	} {
		wantList(t, "classes", made(t, c, nil).Classes(), c)
	}
}

func TestClassesThatMayNotBe(t *testing.T) {
	for what, c := range map[string]api.Class{
		"From below 0":                  {From: -1, To: 3, Class: 1},
		"the least From":                {From: math.MinInt32, To: 3, Class: 1},
		"To below 0":                    {From: 0, To: -1, Class: 1},
		"From above To":                 {From: 4, To: 3, Class: 1},
		"From a surrogate":              {From: 0xd800, To: 0xe000, Class: 1},
		"From the last surrogate":       {From: 0xdfff, To: 0xe000, Class: 1},
		"To a surrogate":                {From: 0xd7ff, To: 0xd800, Class: 1},
		"To the last surrogate":         {From: 0xd7ff, To: 0xdfff, Class: 1},
		"To above the last code point":  {From: 7, To: 0x110000, Class: 1},
		"both above the last":           {From: 0x110000, To: 0x110000, Class: 1},
		"the greatest To":               {From: 7, To: math.MaxInt32, Class: 1},
		"class 0":                       {From: 7, To: 8, Class: 0},
		"a class below 0":               {From: 7, To: 8, Class: -1},
		"the least class":               {From: 7, To: 8, Class: math.MinInt},
		"class 255":                     {From: 7, To: 8, Class: 255},
		"a class that is 1 as one byte": {From: 7, To: 8, Class: 257},
		"a class with a high bit":       {From: 7, To: 8, Class: 1<<32 + 1},
		"the greatest class":            {From: 7, To: 8, Class: math.MaxInt},
	} {
		wantNotBuilt(t, what, []api.Class{c}, nil, api.ErrClass)
		if c.From >= 7 {
			wantNotBuilt(t, what+", behind another", []api.Class{one(1, 1), c}, nil, api.ErrClass)
		}
		wantNotBuilt(t, what+", ahead of a wrong decomposition", []api.Class{c}, []api.Decomp{{Code: -1}}, api.ErrClass)
	}
	for _, c := range [][]api.Class{
		{one(5, 1), one(5, 1)},
		{one(5, 1), one(4, 1)},
		{{From: 5, To: 9, Class: 1}, one(9, 1)},
		{{From: 5, To: 9, Class: 1}, {From: 7, To: 12, Class: 1}},
		{{From: 5, To: 9, Class: 1}, {From: 2, To: 3, Class: 1}},
		{{From: 0, To: 0x10ffff, Class: 1}, one(0x10ffff, 1)},
		{one(1, 1), one(3, 1), one(2, 1), one(4, 1)},
	} {
		wantNotBuilt(t, "out of order", c, nil, api.ErrClass)
	}
}

func wantNotBuilt(t testing.TB, what string, c []api.Class, d []api.Decomp, want api.Errno) {
	t.Helper()
	b, e := norms.Build(c, d)
	wantErr(t, what, e, want)
	if len(b) > 0 {
		t.Errorf("%s: % x", what, b)
	}
}

func TestDecompsThatMayBe(t *testing.T) {
	for what, d := range map[string][]api.Decomp{
		"code point 0":                      {{Code: 0, A: 1, B: 2}},
		"the edges of the Hangul syllables": {{Code: 0xabff, A: 1}, {Code: 0xd7a4, A: 1}},
		"the edges of the jamo":             {{Code: 0x10ff, A: 1}, {Code: 0x1113, A: 1}, {Code: 0x1160, A: 1}, {Code: 0x1176, A: 1}, {Code: 0x11a7, A: 1}, {Code: 0x11c3, A: 1}},
		"the edges of the surrogates":       {{Code: 0xd7ff, A: 0xe000, B: 0xd7fe}, {Code: 0xe001, A: 0xd7ff}},
		"the last code point":               {{Code: 0x10fffe, A: 0x10ffff, B: 0x10ffff}},
		"to jamo":                           {{Code: 5, A: 0x1100, B: 0x1161}},
		"to a Hangul syllable":              {{Code: 5, A: 0xac00, B: 0x301}, {Code: 6, A: 0xd7a3}},
		"to one above it":                   {{Code: 5, A: 6, B: 1}, {Code: 6, A: 7, B: 1}},
		"to one below it":                   {{Code: 6, A: 7, B: 1}, {Code: 8, A: 6, B: 1}},
		"two that come to one":              {{Code: 5, A: 7, B: 1}, {Code: 6, A: 7, B: 1}},
		"A and B alike":                     {{Code: 5, A: 7, B: 7}},
		"four steps":                        chain(0x100, api.MaxDeep),
		"four steps, and others to each":    append(chain(0x100, api.MaxDeep), api.Decomp{Code: 0x200, A: 0x101}, api.Decomp{Code: 0x201, A: 0x104}),
		"0 with a Decomp, where B is 0":     {{Code: 0, A: 1}, {Code: 7, A: 8}},
	} {
		wantList(t, what, decomps(made(t, nil, d)), d)
	}
	down := []api.Decomp{{Code: 0x100, A: 1}, {Code: 0x101, A: 0x100}, {Code: 0x102, A: 0x101}, {Code: 0x103, A: 0x102}}
	wantList(t, "four steps down", made(t, nil, down).Decomp(0x103), []rune{1})
}

func TestDecompsThatMayNotBe(t *testing.T) {
	for what, d := range map[string][]api.Decomp{
		"Code below 0":                       {{Code: -1, A: 1}},
		"Code a surrogate":                   {{Code: 0xd800, A: 1}},
		"Code the last surrogate":            {{Code: 0xdfff, A: 1}},
		"Code above the last":                {{Code: 0x110000, A: 1}},
		"A 0":                                {{Code: 5, A: 0, B: 1}},
		"A below 0":                          {{Code: 5, A: -1}},
		"A a surrogate":                      {{Code: 5, A: 0xd800}},
		"A above the last":                   {{Code: 5, A: 0x110000}},
		"B below 0":                          {{Code: 5, A: 1, B: -1}},
		"B the least":                        {{Code: 5, A: 1, B: math.MinInt32}},
		"B a surrogate":                      {{Code: 5, A: 1, B: 0xdfff}},
		"B above the last":                   {{Code: 5, A: 1, B: 0x110000}},
		"the first Hangul syllable":          {{Code: 0xac00, A: 1}},
		"a Hangul syllable, as by rule":      {{Code: 0xac00, A: 0x1100, B: 0x1161}},
		"the last Hangul syllable":           {{Code: 0xd7a3, A: 1}},
		"the first leading jamo":             {{Code: 0x1100, A: 1}},
		"the last leading jamo":              {{Code: 0x1112, A: 1}},
		"the first vowel":                    {{Code: 0x1161, A: 1}},
		"the last vowel":                     {{Code: 0x1175, A: 1}},
		"the first trailing jamo":            {{Code: 0x11a8, A: 1}},
		"the last trailing jamo":             {{Code: 0x11c2, A: 1}},
		"one Code twice":                     {{Code: 5, A: 1}, {Code: 5, A: 1}},
		"Codes that fall":                    {{Code: 5, A: 1}, {Code: 7, A: 1}, {Code: 6, A: 1}},
		"to itself":                          {{Code: 5, A: 5}},
		"to itself and a mark":               {{Code: 5, A: 5, B: 1}},
		"to itself as B":                     {{Code: 5, A: 1, B: 5}},
		"to itself by two steps":             {{Code: 5, A: 6}, {Code: 6, A: 5}},
		"to itself by four steps":            {{Code: 5, A: 6}, {Code: 6, A: 7}, {Code: 7, A: 8}, {Code: 8, A: 5}},
		"to one that comes to itself":        {{Code: 5, A: 6}, {Code: 6, A: 6}},
		"B with a Decomp":                    {{Code: 5, A: 1, B: 6}, {Code: 6, A: 7}},
		"B with a Decomp ahead":              {{Code: 5, A: 1}, {Code: 6, A: 1, B: 5}},
		"B the first Hangul syllable":        {{Code: 5, A: 1, B: 0xac00}},
		"B the last Hangul syllable":         {{Code: 5, A: 1, B: 0xd7a3}},
		"five steps":                         chain(0x100, api.MaxDeep+1),
		"five steps, one ahead of four":      append([]api.Decomp{{Code: 5, A: 0x100}}, chain(0x100, api.MaxDeep)...),
		"five steps, one behind four":        append(chain(0x100, api.MaxDeep), api.Decomp{Code: 0x200, A: 0x100}),
		"many steps":                         chain(0x100, 500),
		"a last one that is wrong":           {{Code: 5, A: 1}, {Code: 6, A: 1}, {Code: 7, A: 0}},
		"a number that is 5 as sixteen bits": {{Code: 0x110005, A: 1}},
	} {
		wantNotBuilt(t, what, nil, d, api.ErrDecomp)
	}
}

// What a Code with a class comes to begins with one with a class; a Code without one may come to anything.
func TestClassesOfDecomps(t *testing.T) {
	c := []api.Class{{From: 0x300, To: 0x340, Class: 230}, one(0xac00, 9)}
	for what, d := range map[string][]api.Decomp{
		"both with a class":            {{Code: 0x330, A: 0x308, B: 0x301}},
		"Code alone without":           {{Code: 0x344, A: 0x308, B: 0x301}},
		"both without":                 {{Code: 0xe9, A: 0x65, B: 0x301}},
		"B alone without":              {{Code: 0x330, A: 0x308, B: 0x65}},
		"by steps":                     {{Code: 0x330, A: 0x331}, {Code: 0x331, A: 0x332, B: 0x65}},
		"by a step without, to a mark": {{Code: 0x330, A: 0x344}, {Code: 0x344, A: 0x308}},
	} {
		wantList(t, what, decomps(made(t, c, d)), d)
	}
	for what, d := range map[string][]api.Decomp{
		"a mark to a letter":                 {{Code: 0x330, A: 0x65}},
		"a mark to a letter and a mark":      {{Code: 0x330, A: 0x65, B: 0x301}},
		"by steps":                           {{Code: 0x330, A: 0x331, B: 0x301}, {Code: 0x331, A: 0x65, B: 0x301}},
		"by a step without":                  {{Code: 0xe9, A: 0x65, B: 0x301}, {Code: 0x330, A: 0xe9}},
		"to a Hangul syllable's jamo":        {{Code: 0x330, A: 0xac00}},
		"to a Hangul syllable without class": {{Code: 0x330, A: 0xac01}},
	} {
		wantNotBuilt(t, what, c, d, api.ErrDecomp)
		wantList(t, what+", without classes", decomps(made(t, nil, d)), d)
	}
}

// many are as many as may be, and more: each may be by itself.
func many(classes, decomps int) ([]api.Class, []api.Decomp) {
	c := make([]api.Class, classes)
	for i := range c {
		c[i] = one(rune(0x20000+2*i), 1+i%254)
	}
	d := make([]api.Decomp, decomps)
	for i := range d {
		d[i] = api.Decomp{Code: rune(0x30000 + i), A: 'a', B: rune(0x40000 + i)}
	}
	return c, d
}

func TestAsManyAsMayBe(t *testing.T) {
	c, d := many(api.MaxClasses, api.MaxDecomps)
	n := made(t, c, d)
	wantList(t, "classes", n.Classes(), c)
	wantList(t, "decompositions", decomps(n), d)
	for _, x := range c {
		want(t, hex(x.From), n.Class(x.From), x.Class)
		want(t, hex(x.From+1), n.Class(x.From+1), 0)
	}
	for _, x := range d {
		wantList(t, hex(x.Code), n.Decomp(x.Code), []rune{'a', x.B})
	}
}

func TestTooMany(t *testing.T) {
	for _, n := range []struct{ classes, decomps int }{{api.MaxClasses + 1, 0}, {0, api.MaxDecomps + 1}, {api.MaxClasses + 1, api.MaxDecomps + 1}, {9000, 3}, {3, 20000}} {
		c, d := many(n.classes, n.decomps)
		what := strconv.Itoa(n.classes) + " and " + strconv.Itoa(n.decomps)
		wantNotBuilt(t, what, c, d, api.ErrLong)
		wantNotLoaded(t, what, bytesOf(c, d), api.ErrLong)
		// It is named ahead of what else is wrong.
		if len(c) > 0 {
			c[0].Class = 0
		}
		if len(d) > 0 {
			d[0].A = 0
		}
		wantNotBuilt(t, what, c, d, api.ErrLong)
		wantNotLoaded(t, what, bytesOf(c, d), api.ErrLong)
	}
}

// P5.2

func wantNotLoaded(t testing.TB, what string, b []byte, want api.Errno) {
	t.Helper()
	n, e := norms.Load(b)
	wantErr(t, what, e, want)
	if n != nil {
		t.Errorf("%s: an object", what)
	}
}

func TestNoData(t *testing.T) {
	good := build(t, []api.Class{one(0x301, 230)}, []api.Decomp{{Code: 0xe9, A: 0x65, B: 0x301}})
	for n := range good {
		wantNotLoaded(t, "a beginning", good[:n], api.ErrNorms)
	}
	for bit := range 8 * len(good) {
		b := bytes.Clone(good)
		b[bit/8] ^= 1 << (bit % 8)
		wantNotLoaded(t, "one bit turned", b, api.ErrNorms)
	}
	for what, b := range map[string][]byte{
		"a byte behind":           append(bytes.Clone(good), 0),
		"itself behind":           append(bytes.Clone(good), good...),
		"a byte ahead":            append([]byte{0}, good...),
		"no bytes":                {},
		"a length in longer form": append([]byte{good[0] | 0x80, 0}, good[1:]...),
	} {
		wantNotLoaded(t, what, b, api.ErrNorms)
	}
	for _, payload := range []string{
		"", "N", "NRM", "NRM2\x00\x00", "nrm1\x00\x00", "NRM1", "NRM1\x00", "RM1\x00\x00", "\x00NRM1\x00\x00",
		"NRM1\x00\x00\x00", "NRM1\x00\x00NRM1\x00\x00", // bytes that are left
		"NRM1\x01\x00", "NRM1\x01\x05\x05", "NRM1\x01\x05\x05\x01", "NRM1\x02\x05\x05\x01\x00", "NRM1\x00\x01", "NRM1\x00\x01\x05\x06", "NRM1\x00\x02\x05\x06\x00", // too few
		"NRM1\x80", "NRM1\x00\x80", "NRM1\x01\x05\x05\x81", "NRM1\x00\x01\x05\x06\x80", // none
		"NRM1\x80\x00\x00", "NRM1\x00\x80\x00", "NRM1\x01\x85\x00\x05\x01\x00", "NRM1\x01\x05\x05\x81\x80\x00\x00", "NRM1\x00\x01\x05\x06\x80\x00", // in a longer form
		"NRM1\x80\x80\x80\x80\x80\x80\x80\x80\x80\x02\x00", "NRM1\x80\x80\x80\x80\x80\x80\x80\x80\x80\x80\x01\x00", // above 64 bits
		"NRM1\x01\x05\x05\x01\x01\x05\x06", "NRM1\xff\xff\x03\x00", "NRM1\x00\xff\xff\x03",
	} {
		wantNotLoaded(t, strconv.Quote(payload), frameOf([]byte(payload)), api.ErrNorms)
	}
}

// A number above 2^31 is no number of data; up to there it is one, though perhaps no code point.
func TestGreatNumbers(t *testing.T) {
	for _, c := range []struct {
		n     uint64
		class api.Errno // where it stands in a class, and then where it stands in a decomposition
		step  api.Errno
		count api.Errno
	}{
		{0x110000, api.ErrClass, api.ErrDecomp, api.ErrNorms},
		{1<<31 - 1, api.ErrClass, api.ErrDecomp, api.ErrNorms},
		{1 << 31, api.ErrClass, api.ErrDecomp, api.ErrNorms},
		{1<<31 + 1, api.ErrNorms, api.ErrNorms, api.ErrNorms},
		{1 << 32, api.ErrNorms, api.ErrNorms, api.ErrNorms},
		{1<<32 + 7, api.ErrNorms, api.ErrNorms, api.ErrNorms},
		{1 << 63, api.ErrNorms, api.ErrNorms, api.ErrNorms},
		{math.MaxUint64, api.ErrNorms, api.ErrNorms, api.ErrNorms},
	} {
		what := strconv.FormatUint(c.n, 16)
		for i := range 3 {
			row := []uint64{7, 7, 7}
			row[i] = c.n
			wantNotLoaded(t, what+" in a class", payloadOf(1, row[0], row[1], row[2], 0), c.class)
			wantNotLoaded(t, what+" in the second class", payloadOf(2, 1, 1, 1, row[0], row[1], row[2], 0), c.class)
			row = []uint64{7, 8, 9}
			row[i] = c.n
			wantNotLoaded(t, what+" in a decomposition", payloadOf(0, 1, row[0], row[1], row[2]), c.step)
		}
		wantNotLoaded(t, what+" classes", payloadOf(c.n, 7, 7, 7, 0), c.count)
		wantNotLoaded(t, what+" classes alone", payloadOf(c.n), c.count)
		wantNotLoaded(t, what+" decompositions", payloadOf(0, c.n, 7, 8, 9), c.count)
		wantNotLoaded(t, what+" decompositions alone", payloadOf(0, c.n), c.count)
	}
}

// What Build refuses is refused as bytes, too, by the same error; what is no number is told ahead of it.
func TestDataThatMayNotBe(t *testing.T) {
	for _, c := range []struct {
		what    string
		payload []uint64
		want    api.Errno
	}{
		{"class 0", []uint64{1, 5, 5, 0, 0}, api.ErrClass},
		{"class 255", []uint64{1, 5, 5, 255, 0}, api.ErrClass},
		{"a surrogate", []uint64{1, 0xd800, 0xe000, 1, 0}, api.ErrClass},
		{"ranges that meet", []uint64{2, 5, 6, 1, 6, 7, 1, 0}, api.ErrClass},
		{"a class and a decomposition", []uint64{1, 5, 5, 0, 1, 5, 5, 5}, api.ErrClass},
		{"A 0", []uint64{0, 1, 5, 0, 0}, api.ErrDecomp},
		{"to itself", []uint64{0, 1, 5, 5, 0}, api.ErrDecomp},
		{"a Hangul syllable", []uint64{0, 1, 0xac00, 5, 0}, api.ErrDecomp},
		{"a mark to a letter", []uint64{1, 5, 5, 9, 1, 5, 6, 0}, api.ErrDecomp},
		{"class 0, and a byte left", []uint64{1, 5, 5, 0, 0, 0}, api.ErrNorms},
		{"A 0, and a byte left", []uint64{0, 1, 5, 0, 0, 0}, api.ErrNorms},
		{"class 0, and a number that is too great", []uint64{1, 5, 5, 0, 1, 5, 6, 1<<31 + 1}, api.ErrNorms},
	} {
		wantNotLoaded(t, c.what, payloadOf(c.payload...), c.want)
	}
	c, d := many(api.MaxClasses+1, 0)
	b := bytesOf(c, d)
	wantNotLoaded(t, "too many", b, api.ErrLong)
	wantNotLoaded(t, "too many that are not all there", payloadOf(append(numbersOf(c, d)[:3*api.MaxClasses], 0)...), api.ErrNorms)
	wantNotLoaded(t, "too many, and a byte left", payloadOf(append(numbersOf(c, d), 0)...), api.ErrNorms)
}

func TestNotMade(t *testing.T) {
	for _, n := range notMade() {
		for _, r := range []rune{0, 'a', 0xe9, 0x301, 0xac00, 0xac01, 0xd7a3, 0xd800, 0x212b, 0x10ffff, 0x110000, -1, math.MinInt32, math.MaxInt32} {
			want(t, "Class", n.Class(r), 0)
			want(t, "Starter", n.Starter(r), true)
			wantList(t, "Decomp", n.Decomp(r), []rune{r})
		}
		want(t, "classes", len(n.Classes()), 0)
		want(t, "decompositions", len(decomps(n)), 0)
	}
}

// P5.3

func TestClass(t *testing.T) {
	c := []api.Class{one(0, 3), {From: 5, To: 9, Class: 254}, one(10, 1), {From: 0xd7ff, To: 0xe000, Class: 17}, {From: 0x10fff0, To: 0x10ffff, Class: 99}}
	n := made(t, c, nil)
	for r, class := range map[rune]int{
		0: 3, 1: 0, 4: 0, 5: 254, 6: 254, 7: 254, 9: 254, 10: 1, 11: 0, 0xd7fe: 0, 0xd7ff: 17, 0xdabc: 17, 0xe000: 17, 0xe001: 0,
		0x10ffef: 0, 0x10fff0: 99, 0x10ffff: 99, 0x110000: 0, -1: 0, math.MinInt32: 0, math.MaxInt32: 0,
	} {
		want(t, hex(r), n.Class(r), class)
		want(t, hex(r), n.Starter(r), class == 0)
	}
	none := made(t, nil, nil)
	for _, r := range []rune{0, 0x301, -1, math.MaxInt32} {
		want(t, hex(r), none.Class(r), 0)
		want(t, hex(r), none.Starter(r), true)
	}
}

// P5.4

func TestDecomp(t *testing.T) {
	n := made(t, []api.Class{{From: 0x300, To: 0x314, Class: 230}}, []api.Decomp{
		{Code: 0, A: 'z', B: 0x300}, {Code: 0xc5, A: 'A', B: 0x30a}, {Code: 0x100, A: 0x101, B: 1}, {Code: 0x101, A: 0x102, B: 2}, {Code: 0x102, A: 0x103, B: 3},
		{Code: 0x103, A: 0x104, B: 4}, {Code: 0x212b, A: 0xc5}, {Code: 0x3000, A: 0xac00, B: 0x300}, {Code: 0x3001, A: 0xd7a3}, {Code: 0x3002, A: 0x3001, B: 0x1100},
		{Code: 0x10ffff, A: 0x212b, B: 0x301},
	})
	for r, l := range map[rune][]rune{
		0: {'z', 0x300}, 0xc5: {'A', 0x30a}, 0x212b: {'A', 0x30a}, 0x10ffff: {'A', 0x30a, 0x301},
		0x100: {0x104, 4, 3, 2, 1}, 0x101: {0x104, 4, 3, 2}, 0x102: {0x104, 4, 3}, 0x103: {0x104, 4}, 0x104: {0x104},
		0x3000: {0x1100, 0x1161, 0x300}, 0x3001: {0x1112, 0x1175, 0x11c2}, 0x3002: {0x1112, 0x1175, 0x11c2, 0x1100},
		0xac00: {0x1100, 0x1161}, 0xac01: {0x1100, 0x1161, 0x11a8}, 0xd7a3: {0x1112, 0x1175, 0x11c2},
		'a': {'a'}, 1: {1}, 0xabff: {0xabff}, 0xd7a4: {0xd7a4}, 0x1100: {0x1100}, 0x10fffe: {0x10fffe},
		0xd800: {0xd800}, -1: {-1}, 0x110000: {0x110000}, math.MinInt32: {math.MinInt32}, math.MaxInt32: {math.MaxInt32},
	} {
		for range 2 {
			wantList(t, hex(r), n.Decomp(r), l)
		}
	}
}

func TestHangul(t *testing.T) {
	n := made(t, nil, nil)
	next := rune(0xac00)
	for lead := rune(0x1100); lead <= 0x1112; lead++ {
		for vowel := rune(0x1161); vowel <= 0x1175; vowel++ {
			for trail := rune(0x11a7); trail <= 0x11c2; trail++ {
				l := []rune{lead, vowel, trail}
				if trail == 0x11a7 {
					l = l[:2]
				}
				wantList(t, hex(next), norms.Hangul(next), l)
				wantList(t, hex(next), n.Decomp(next), l)
				next++
			}
		}
	}
	want(t, "behind the last one", next, 0xd7a4)
	for _, r := range []rune{0, 'a', 0x1100, 0x1161, 0x11a8, 0xabff, 0xd7a4, 0xd7ff, 0xd800, 0x1ac00, 0x10ffff, -1, -0xac00, 0xac00 - 1<<31, math.MinInt32, math.MaxInt32} {
		wantList(t, hex(r), norms.Hangul(r), nil)
	}
}

// Full decompositions are reckoned when one is asked for first: many may ask at once.
func TestManyAskAtOnce(t *testing.T) {
	n := load(t, norms.Small())
	var all sync.WaitGroup
	for range 16 {
		all.Go(func() {
			wantList(t, "1ead", n.Decomp(0x1ead), []rune{0x61, 0x323, 0x302})
			wantList(t, "ac01", n.Decomp(0xac01), []rune{0x1100, 0x1161, 0x11a8})
			want(t, "301", n.Class(0x301), 230)
			for d := range n.Decomps() {
				if l := n.Decomp(d.Code); len(l) < 1 {
					t.Errorf("%x: %x", d.Code, l)
				}
			}
		})
	}
	all.Wait()
}

// P5.5

func TestDecompsAreLeft(t *testing.T) {
	d := []api.Decomp{{Code: 5, A: 1}, {Code: 6, A: 1, B: 2}, {Code: 7, A: 6}}
	each := made(t, nil, d).Decomps()
	for range 2 {
		for most := 1; most <= len(d)+1; most++ {
			var got []api.Decomp
			for x := range each {
				got = append(got, x)
				if len(got) == most {
					break
				}
			}
			wantList(t, "left", got, d[:min(most, len(d))])
		}
	}
	n := 0
	for range each {
		for range each {
			n++
		}
	}
	want(t, "one within the other", n, len(d)*len(d))
}

// P5.6

func TestSmallIsTheChapters(t *testing.T) {
	classes := []api.Class{
		{From: 0x300, To: 0x314, Class: 230}, {From: 0x323, To: 0x326, Class: 220}, {From: 0x327, To: 0x328, Class: 202}, one(0x338, 1),
		one(0x345, 240), one(0x5b0, 10), one(0x93c, 7), one(0x94d, 9),
	}
	n := load(t, norms.Small())
	wantList(t, "classes", n.Classes(), classes)
	wantList(t, "decompositions", decomps(n), chapters(t))
	if !bytes.Equal(norms.Small(), bytesOf(classes, chapters(t))) {
		t.Errorf("Small is % x", norms.Small())
	}
	for r, l := range map[rune][]rune{
		0x1ead: {0x61, 0x323, 0x302}, 0x1d6: {0x75, 0x308, 0x304}, 0xac01: {0x1100, 0x1161, 0x11a8}, 0x212b: {0x41, 0x30a}, 0x2126: {0x3a9},
		0x1e69: {0x73, 0x323, 0x307}, 0x344: {0x308, 0x301}, 0x1ea5: {0x61, 0x302, 0x301}, 0x61: {0x61},
	} {
		wantList(t, hex(r), n.Decomp(r), l)
	}
	for r, class := range map[rune]int{0x2ff: 0, 0x300: 230, 0x301: 230, 0x314: 230, 0x315: 0, 0x322: 0, 0x323: 220, 0x326: 220, 0x327: 202, 0x328: 202, 0x329: 0, 0x338: 1, 0x344: 0, 0x345: 240, 0x5b0: 10, 0x93c: 7, 0x94d: 9, 0x94e: 0} {
		want(t, hex(r), n.Class(r), class)
	}
}

// P2 of the whole: nothing is shared, nothing that is given is changed, nothing behind an end is read or handed out.

func TestAnswersShareNothing(t *testing.T) {
	one, two := norms.Small(), norms.Small()
	want(t, "room behind the end", cap(one), len(one))
	n := load(t, one)
	clear(one)
	if !bytes.Equal(two, norms.Small()) {
		t.Error("Small tells other bytes")
	}
	for range 2 {
		c := n.Classes()
		want(t, "Classes", len(c), 8)
		want(t, "room behind the end", cap(c), len(c))
		want(t, "Class", n.Class(0x301), 230)
		clear(c)
		for r, long := range map[rune]int{0x1ead: 3, 0xac01: 3, 0xac00: 2, 'a': 1} {
			l := n.Decomp(r)
			want(t, hex(r), len(l), long)
			want(t, "room behind the end", cap(l), len(l))
			want(t, hex(r), l[0] != 0, true)
			clear(l)
		}
		h := norms.Hangul(0xac00)
		want(t, "room behind the end", cap(h), len(h))
	}
}

func TestWhatIsGivenStays(t *testing.T) {
	classes := []api.Class{one(5, 1), one(6, 2), one(1, 0)}
	steps := []api.Decomp{{Code: 9, A: 7}, {Code: 10, A: 9, B: 5}, {Code: 1, A: 0}}
	c, d := slices.Clone(classes), slices.Clone(steps)
	b := build(t, c[:2], d[:2]) // what lies behind may not be, and is not read
	was := bytes.Clone(b)
	n := load(t, b)
	n.Decomp(9)
	wantList(t, "classes", c, classes)
	wantList(t, "decompositions", d, steps)
	if !bytes.Equal(b, was) {
		t.Errorf("bytes: % x, want % x", b, was)
	}
	clear(b)
	clear(c)
	clear(d)
	want(t, "Class", n.Class(6), 2)
	wantList(t, "Decomp", n.Decomp(10), []rune{7, 5})
	wantList(t, "Decomps", decomps(n), steps[:2])
}
