package table_test

import (
	"math"
	"slices"
	"strings"
	"testing"

	"lectern/api"
	"lectern/table"
)

// P8.3

func wantCodes(t testing.TB, s string, want []rune, err api.Errno) {
	t.Helper()
	got, e := table.Codes(s)
	if !slices.Equal(got, want) || e != err {
		t.Errorf("Codes of %q: %x, error %d; want %x, error %d", s, got, e, want, err)
	}
}

func TestCodes(t *testing.T) {
	for s, l := range map[string][]rune{
		"0041": {0x41}, "0000": {0}, "FFFF": {0xffff}, "10FFFF": {0x10ffff}, "D7FF E000": {0xd7ff, 0xe000}, "0041 0301": {0x41, 0x301},
		"1234 5678 9ABC 0DEF": {0x1234, 0x5678, 0x9abc, 0xdef}, "12345": {0x12345}, "00041": {0x41}, "000041": {0x41}, "010FFF": {0x10fff}, "00000 000000 0000": {0, 0, 0},
		" 0041": {0x41}, "0041 ": {0x41}, "\t0041\t": {0x41}, " \t  0041 \t\t 0301\t ": {0x41, 0x301}, "0041\t0301": {0x41, 0x301}, "0041  \t 0301": {0x41, 0x301},
		"0001 0002 0003 0004 0005 0006 0007 0008": {1, 2, 3, 4, 5, 6, 7, 8}, "0041 0041": {0x41, 0x41},
	} {
		wantCodes(t, s, l, api.OK)
	}
}

func TestCodesOfNoForm(t *testing.T) {
	for _, s := range []string{
		"", " ", "\t", " \t ", "41", "041", "0041000", "0000041", "1", "004a", "004A1f", "00e9", "0x41", "U+0041", "+0041", "-0041", "0041,0301", "0041;", "0041 ;", ";0041",
		"0041-0042", "0041..0042", "0041_0301", "00 41", "0041 301", "0041 0000301", "301 0041", "0041\n", "0041\n0301", "\n0041", "0041\r", "0041\r0301", "0041\v0301", "0041\f0301",
		"0041\u00a00301", "0041\u2003", "\ufeff0041", "00G1", "G041", "004G", "00:1", "00/1", "00@1", "00`1", "é041", "00é1", "\xff041", "004\xff", "004\xb1", "٠٠٤١", "０041", "0041\x00", "\x000041",
		"#", "0041 # A", "@version", "0_41", "0041 x 0042",
		// ahead of numbers that may not be
		"110000 x", "x 110000", "D800 41", "0041 110000 0042 301", "0001 0002 0003 0004 0005 0006 0007 0008 9", strings.Repeat("0041 ", 50) + "41",
	} {
		wantCodes(t, s, nil, api.ErrLine)
	}
}

func TestCodesThatMayNotBe(t *testing.T) {
	for _, s := range []string{
		"110000", "FFFFFF", "D800", "DFFF", "0D800", "00DFFF", "DABC", "200000", "0041 110000", "D800 0041", "0001 0002 0003 0004 0005 0006 0007 D800",
		"0001 0002 0003 0004 0005 0006 0007 0008 0009", strings.Repeat("0041\t", 5000), strings.Repeat("D800 ", 9),
	} {
		wantCodes(t, s, nil, api.ErrSeq)
	}
	for n := rune(0xd7fe); n < 0xe002; n++ {
		s := table.Show([]rune{n})
		if n < 0xd800 || n > 0xdfff {
			wantCodes(t, s, []rune{n}, api.OK)
		} else {
			wantCodes(t, s, nil, api.ErrSeq)
		}
	}
}

func TestShow(t *testing.T) {
	for _, c := range []struct {
		l    []rune
		want string
	}{
		{nil, ""}, {[]rune{}, ""}, {[]rune{0}, "0000"}, {[]rune{1}, "0001"}, {[]rune{0xab}, "00AB"}, {[]rune{0xabc}, "0ABC"}, {[]rune{0xabcd}, "ABCD"}, {[]rune{0xabcde}, "ABCDE"},
		{[]rune{0x10ffff}, "10FFFF"}, {[]rune{0x110000}, "110000"}, {[]rune{0x1234567}, "1234567"}, {[]rune{math.MaxInt32}, "7FFFFFFF"}, {[]rune{math.MinInt32}, "80000000"},
		{[]rune{-1}, "FFFFFFFF"}, {[]rune{-2}, "FFFFFFFE"}, {[]rune{0xd800, 0xdfff}, "D800 DFFF"}, {[]rune{0x41, 0x301}, "0041 0301"}, {[]rune{-1, 0, 0x12345}, "FFFFFFFF 0000 12345"},
		{[]rune{0x1234, 0x5678, 0x90ef}, "1234 5678 90EF"}, {make([]rune, 10), strings.Repeat("0000 ", 9) + "0000"},
	} {
		want(t, "Show", table.Show(c.l), c.want)
	}
}

// P8.4

func wantLine(t testing.TB, s string, want api.Entry, err api.Errno) {
	t.Helper()
	got, e := table.ReadLine(s)
	if !sameEntry(got, want) || e != err {
		t.Errorf("ReadLine of %q: %v, error %d; want %v, error %d", s, got, e, want, err)
	}
}

func TestReadLine(t *testing.T) {
	a, acute := elem(0x1c47, 0x20, 8), elem(0, 0x24, 2)
	for s, x := range map[string]api.Entry{
		"0041 ; [.1C47.0020.0008]": entry([]rune{0x41}, a),
		"0041 ; ":                  entry([]rune{0x41}),
		"0041;":                    entry([]rune{0x41}),
		"0041 0301;[.1C47.0020.0008][.0000.0024.0002]":   entry([]rune{0x41, 0x301}, a, acute),
		"0041 ; [.1C47.0020.0008] [.0000.0024.0002]":     entry([]rune{0x41}, a, acute),
		"0041 ; [.1C47.0020.0008]\t \t[.0000.0024.0002]": entry([]rune{0x41}, a, acute),
		" \t0041\t 0301 \t;\t [.1C47.0020.0008] \t":      entry([]rune{0x41, 0x301}, a),
		"\t0041;\t":                                        entry([]rune{0x41}),
		"0020 ; [*0209.0020.0002]":                         entry([]rune{0x20}, varied(0x209, 0x20, 2)),
		"10FFFF ; [.0000.0000.0001]":                       entry([]rune{0x10ffff}, elem(0, 0, 1)),
		"000041 ; [.FAFF.01FF.003F][*FAFF.01FF.003F]":      entry([]rune{0x41}, elem(0xfaff, 0x1ff, 0x3f), varied(0xfaff, 0x1ff, 0x3f)),
		"0001;" + strings.Repeat("[.0001.0001.0001]", 16):  entry([]rune{1}, plain(16)...),
		"0001;" + strings.Repeat(" [.0001.0001.0001]", 16): entry([]rune{1}, plain(16)...),
		"0001 0002 0003 0004 0005 0006 0007 0008;":         entry([]rune{1, 2, 3, 4, 5, 6, 7, 8}),
	} {
		wantLine(t, s, x, api.OK)
	}
}

func TestReadLineOfNone(t *testing.T) {
	for _, s := range []string{
		"", " ", ";", " ; ", ";;", "; [.1C47.0020.0008]", "0041", "0041 [.1C47.0020.0008]", "[.1C47.0020.0008]", "41 ; [.1C47.0020.0008]", "00e9 ; [.1C47.0020.0008]",
		"0041 ; [.1C47.0020.0008", "0041 ; 1C47.0020.0008", "0041 ; [.1c47.0020.0008]", "0041 ; [.1C47.0020.0008]x", "0041 ; x[.1C47.0020.0008]", "0041 ; x", "0041 ; ;",
		"0041 ;; [.1C47.0020.0008]", "0041 ; [.1C47.0020.0008];", "0041 ; [.1C47.0020.0008] ; [.1C47.0020.0008]", "0041 ; [.1C47.0020.0008] 0041", "0041 ; [.1C47.0020.0008],[.1C47.0020.0008]",
		"0041 ; [ .1C47.0020.0008]", "0041 ; [.1C47.0020]", "0041 ; [.1C47.0020.0008.0041]", "0041 ; []", "@version 1", "@unified 3400..4DB5 ; FB80",
		// bytes that stand nowhere, and such as are nothing elsewhere
		"0041 ; [.1C47.0020.0008]#", "0041 ; # A", "#", "# 0041 ;", "0041 # ;", "0041 ; [.1C47.0020.0008]\n", "\n0041 ;", "0041\n;", "0041 ;\n", "0041 ;\n0042 ;", "0041 ; [.1C47.0020.0008]\r",
		"0041 ;\r", "\r0041 ;", "0041\r;", "0041 ; \r[.1C47.0020.0008]", "0041 ; [.1C47.0020.0008]\v", "0041 ; [.1C47.0020.0008]\u00a0", "0041 ;\x00", "\ufeff0041 ;", "0041 ; \xff",
		// ahead of what is wrong of the numbers, and with it
		"110000 [.1C47.0020.0008]", "110000", "110000 41 ;", "D800 # ;", "D800 ;\n", "110000 ; #", "0041 ; [.FB00.0020.0002]#", "0041 ; [.FB00.0020.0002]\n",
		// ahead of a weight that may not be, or of too many
		"0041 ; x [.FB00.0020.0002]", "0041 ; [.1C47.0020.0008] x [.FB00.0020.0002]", "0041 ; " + strings.Repeat("[.0001.0001.0001]", 17) + "x",
		"0041 ; " + strings.Repeat("[.0001.0001.0001]", 16) + "x", "0041 ; " + strings.Repeat("[.0001.0001.0001]", 17) + " ;",
	} {
		wantLine(t, s, api.Entry{}, api.ErrLine)
	}
}

func TestReadLineOfWhatMayNotBe(t *testing.T) {
	many := strings.Repeat("[.0001.0001.0001]", 16)
	for err, l := range map[api.Errno][]string{
		api.ErrSeq: {
			"110000 ;", "D800 ; [.1C47.0020.0008]", "0041 DFFF ;", strings.Repeat("0041 ", 9) + "; [.1C47.0020.0008]",
			"110000 ; x", "110000 ; [.FB00.0020.0002]", "D800 ; [.0000.0000.0000]", "FFFFFF ; " + many + many, "D800 ;;", "D800 ;\r", // whatever is behind
		},
		api.ErrWeight: {
			"0041 ; [.FB00.0020.0002]", "0041 ; [.FFFF.FFFF.FFFF]", "0041 ; [.0001.0000.0001]", "0041 ; [.0001.0001.0000]", "0041 ; [*0000.0001.0001]", "0041 ; [.0001.0200.0001]",
			"0041 ; [.0001.0001.0040]", "0041 ; [.0000.0000.0000]", "0041 ; [*0000.0000.0000]", "0041 ; [.1C47.0020.0008][.0000.0000.0000]", "0041 ; [.0000.0000.0000] x",
			"0041 ; [.FB00.0020.0002] x", "0041 ; [.FB00.0020.0002];", "0041 ; " + many + "[.0000.0000.0000]", "0041 ; " + many + "[.FB00.0020.0002]",
			"0041 ; " + many + many + "[.FB00.0020.0002]x", "0041 ; [.0000.0000.0000]" + many + many,
		},
		api.ErrLong: {"0041 ; " + many + "[.0001.0001.0001]", "0041;" + many + many, "0041 ; " + many + " \t[.0000.0000.0001] ", "0041 ; " + strings.Repeat(many, 1000)},
	} {
		for _, s := range l {
			wantLine(t, s, api.Entry{}, err)
		}
	}
}

func TestLine(t *testing.T) {
	for _, c := range []struct {
		x    api.Entry
		want string
	}{
		{entry([]rune{0x41}), "0041 ; "}, {entry([]rune{0x41}, elem(0x1c47, 0x20, 8)), "0041 ; [.1C47.0020.0008]"},
		{entry([]rune{0x41, 0x301}, elem(0x1c47, 0x20, 8), elem(0, 0x24, 2)), "0041 0301 ; [.1C47.0020.0008][.0000.0024.0002]"},
		{entry([]rune{0x10ffff, 0, 0xabcd}, varied(0x209, 0x20, 2)), "10FFFF 0000 ABCD ; [*0209.0020.0002]"},
		{entry([]rune{1, 2, 3, 4, 5, 6, 7, 8}, plain(16)...), "0001 0002 0003 0004 0005 0006 0007 0008 ; " + strings.Repeat("[.0001.0001.0001]", 16)},
	} {
		s, e := table.Line(c.x)
		wantErr(t, "Line", e, api.OK)
		want(t, "Line", s, c.want)
	}
}

func TestLineOfWhatMayNotBe(t *testing.T) {
	for err, l := range wrongEntries() {
		for _, x := range l {
			s, e := table.Line(x)
			wantErr(t, "Line", e, err)
			want(t, "Line", s, "")
		}
	}
}
