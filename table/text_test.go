package table_test

import (
	"slices"
	"strings"
	"testing"

	"lectern/api"
	"lectern/table"
)

// P8.5

func wantParse(t testing.TB, s string, want api.Source) {
	t.Helper()
	got, at, e := table.Parse(s)
	if !same(got, want) || at != 0 || e != api.OK {
		t.Errorf("Parse of %q: %v, line %d, error %d; want %v", short(s), got, at, e, want)
	}
}

func wantRefused(t testing.TB, s string, line int, err api.Errno) {
	t.Helper()
	got, at, e := table.Parse(s)
	if !same(got, api.Source{}) || at != line || e != err {
		t.Errorf("Parse of %q: %v, line %d, error %d; want line %d, error %d", short(s), got, at, e, line, err)
	}
}

func short(s string) string { return s[:min(len(s), 200)] }

func TestParse(t *testing.T) {
	wantParse(t, someText(), some())
	a := with(entry([]rune{0x41}, elem(0x1c47, 0x20, 8)))
	for _, s := range []string{
		"@version 1\n0041 ; [.1C47.0020.0008]\n", "@version 1\n0041 ; [.1C47.0020.0008]", "0041 ; [.1C47.0020.0008]\n@version 1", "@version\t1\n0041;[.1C47.0020.0008]",
		"\n\n@version 1\n\n0041;[.1C47.0020.0008]\n\n\n", " \t@version \t 1\t \n\t0041 ;\t[.1C47.0020.0008]\t ", "@version 1\r\n0041 ; [.1C47.0020.0008]\r\n", "@version 1\r\n0041;[.1C47.0020.0008]\r",
		"# all\n@version 1# the first\n0041 ; [.1C47.0020.0008] # A\n#", "#\n##\n \t # x\n@version 1\n0041;[.1C47.0020.0008]#;#\n", "\r\n \r\n\t\r\n#\r\n@version 1 # \xff\xfe\x00\r\n0041;[.1C47.0020.0008]",
		"@version 1 #\r x \r\n0041;[.1C47.0020.0008] # @version 2\r",
	} {
		wantParse(t, s, a)
	}
	wantParse(t, "@version 1\n0041 0301 ; [.1C47.0020.0008][.0000.0024.0002] # A\n", with(entry([]rune{0x41, 0x301}, elem(0x1c47, 0x20, 8), elem(0, 0x24, 2))))
	wantParse(t, "@version 1\n0041 ;\n0042;#\n0041 0042 ; [.0001.0001.0001]", with(entry([]rune{0x41}), entry([]rune{0x42}), entry([]rune{0x41, 0x42}, elem(1, 1, 1))))
	wantParse(t, "@version 1#2\n", api.Source{Version: "1"})
	for _, s := range []string{"@", "@version", ";", "!~", strings.Repeat("v", 32), "[.0001.0001.0001]", "0041;"} {
		wantParse(t, "@version "+s, api.Source{Version: s})
	}
}

func TestParseOfRanges(t *testing.T) {
	for s, l := range map[string][]api.Implicit{
		"@unified 3400..4DB5; FB80":                       {split(0x3400, 0x4db5, 0xfb80)},
		"@unified 3400..4DB5;FB40 # some":                 {split(0x3400, 0x4db5, 0xfb40)},
		" \t@unified \t3400..4DB5 \t; \tFB80\t ":          {split(0x3400, 0x4db5, 0xfb80)},
		"@unified\t03400..004DB5;FB80\r":                  {split(0x3400, 0x4db5, 0xfb80)},
		"@implicitweights 17000..187EC; FB00":             {whole(0x17000, 0x187ec, 0xfb00)},
		"@implicitweights\t\t 17000..187EC\t;\t FB3F\r\n": {whole(0x17000, 0x187ec, 0xfb3f)},
		"@unified 0000..10FFFF;FB40":                      {split(0, 0x10ffff, 0xfb40)},
		"@implicitweights D800..DFFF;FB00":                {whole(0xd800, 0xdfff, 0xfb00)}, // here these are numbers as any
		"@unified 0041..0041;FB40":                        {split(0x41, 0x41, 0xfb40)},
		// in the order of their From
		"@unified 0005..0006;FB40\n@unified 0003..0004;FB40\n@implicitweights 0001..0002;FB01": {whole(1, 2, 0xfb01), split(3, 4, 0xfb40), split(5, 6, 0xfb40)},
		"@unified 0001..0002;FB40\n@implicitweights 0005..0006;FB01\n@unified 0003..0004;FB80": {split(1, 2, 0xfb40), split(3, 4, 0xfb80), whole(5, 6, 0xfb01)},
	} {
		wantParse(t, "@version 1\n"+s, api.Source{Version: "1", Ranges: l})
		wantParse(t, s+"\n@version 1", api.Source{Version: "1", Ranges: l})
	}
	var lines []string
	for i := range 100 {
		lines = append(lines, "@unified "+table.Show([]rune{rune(99 - i)})+".."+table.Show([]rune{rune(99 - i)})+";FB40")
	}
	wantParse(t, "@version 1\n"+strings.Join(lines, "\n"), api.Source{Version: "1", Ranges: singles(100)})
}

func TestParseOfNoLines(t *testing.T) {
	for _, s := range []string{
		"@version", "@version ", "@version\t\t", "@version # 1", "@version 1 2", "@version 1\t2", "@version 1 \x00", "@version1", "@Version 1", "@ version 1", "@", "@ ", "@1", "@version\v1", "@version\u00a01",
		"version 1", "@@version 1", "@version;1", "@versions 1", "@versio 1", "@\tversion 1", "@version\r1", "@versionimplicitweights 0041..0042;FB40",
		"@unified", "@unified ", "@unified3400..4DB5;FB80", "@unified 3400..4DB5", "@unified 3400..4DB5;", "@unified ;FB80", "@unified 3400;FB80", "@unified 3400..;FB80", "@unified ..4DB5;FB80",
		"@unified ..;FB80", "@unified 3400.4DB5;FB80", "@unified 3400...4DB5;FB80", "@unified 3400..4DB5..4DB6;FB80", "@unified 3400 ..4DB5;FB80", "@unified 3400.. 4DB5;FB80", "@unified 3400-4DB5;FB80",
		"@unified 3400. .4DB5;FB80", "@unified 340..4DB5;FB80", "@unified 3400..DB5;FB80", "@unified 0003400..4DB5;FB80", "@unified 3400..0004DB5;FB80", "@unified 3400..4DB5;FB8", "@unified 3400..4DB5;0FB80",
		"@unified 3400..4DB5;fb80", "@unified 3400..4db5;FB80", "@unified 3400..4DB5;FB8G", "@unified 3400..4DB5;FB80;", "@unified 3400..4DB5;;FB80", "@unified 3400..4DB5;FB80 x", "@unified 3400..4DB5;FB 80",
		"@unified 3400..4DB5 FB80", "@unified 3400..4DB5,FB80", "@unified 3400..4DB5;+B80", "@unified +400..4DB5;FB80", "@unified 3400..4DB5;FB80\r\r", "@unified 3400..4DB5;\rFB80", "@unified 3400 4DB5;FB80",
		"@unified 3400..4DB5;[.FB80.0020.0002]", "@Unified 3400..4DB5;FB80", "@unifie 3400..4DB5;FB80", "@implicitweight 17000..187EC;FB00", "@implicitweights", "@implicitweights 17000..187EC",
		"@implicitweights 17000..187EC;FB", "@implicit 17000..187EC;FB00", "@unified 3400..4DB5;\xffB80", "@backwards 2", "@implicitweights@unified 3400..4DB5;FB80",
		// whatever else is wrong
		"@unified 110000..4DB5;FB8", "@unified 110000..x;FB80", "@unified x..110000;FB80", "@unified FFFFFF..FFFFFF", "@unified 110000..4DB5 FB80",
		"0041", "0041 [.1C47.0020.0008]", "0041 ; x", "41 ; [.1C47.0020.0008]", "; [.1C47.0020.0008]", ";", "x", "\r\r", "\r \r", "\v", "\x00", "0041;\r\r", "0041;\r #", "\r0041;", "\ufeff@version 1", "\xff", "0041 # ;",
	} {
		wantRefused(t, s, 1, api.ErrLine)
		wantRefused(t, "\n# x\n"+s+"\n0041 ; [.FB00.0020.0002]\n@version 1", 3, api.ErrLine)
		wantRefused(t, someText()+s, 10, api.ErrLine)
	}
}

func TestParseOfVersions(t *testing.T) {
	for _, s := range []string{strings.Repeat("v", 33), strings.Repeat("v", 5000), "\x00", "1\x7f", "1\x80", "\xff", "é", "1\r\r\n", "1\r \n", "1\r#", "1\v", "1\x1f", "1\r2", "1\u00a02"} {
		wantRefused(t, "@version "+s, 1, api.ErrVersion)
		wantRefused(t, "0041;\n\n\t@version\t \t"+s+"\n@version 1\nx", 3, api.ErrVersion)
		wantRefused(t, "@version 1\n@version "+s, 2, api.ErrLine) // a second time
	}
	for _, s := range []string{"1", "2", " \t 1 # x"} {
		wantRefused(t, "@version 1\n0041;\n@version "+s+"\nx", 3, api.ErrLine)
	}
	for _, s := range []string{"", "\n", "\n\n\n", "#@version 1", " # @version 1\n#\n", "0041;", "0041;\n@unified 3400..4DB5;FB80\n\n", "\r\n\r\n", "@unified 0005..0004;0000", strings.Repeat("@unified 3400..4DB5;FB80\n", 101)} {
		wantRefused(t, s, 0, api.ErrVersion)
	}
}

func TestParseOfNumbersThatMayNotBe(t *testing.T) {
	for _, s := range []string{
		"@unified 110000..4DB5;FB80", "@unified 0041..110000;FB80", "@unified FFFFFF..FFFFFF;FB80", "@implicitweights 0041..200000 ; 0000", "@implicitweights 110000..0041;FB00",
		"110000;", "D800 ; [.0001.0001.0001]", "0041 DFFF;x", "0001 0002 0003 0004 0005 0006 0007 0008 0009;",
	} {
		wantRefused(t, s, 1, api.ErrSeq)
		wantRefused(t, "@version 1\r\n#\n"+s+" # \n0041 ; x", 3, api.ErrSeq)
	}
}

func TestParseOfEntriesThatMayNotBe(t *testing.T) {
	wantRefused(t, "@version 1\n0041;[.FB00.0020.0002]\nx", 2, api.ErrWeight)
	wantRefused(t, "@version 1\n0041;[.0000.0000.0000]\nx", 2, api.ErrWeight)
	wantRefused(t, "@version 1\n0041;[.FB00.0020.0002]x\n", 2, api.ErrWeight)
	wantRefused(t, "@version 1\n\n0041;"+strings.Repeat("[.0001.0001.0001]", 17)+"\nx", 3, api.ErrLong)
	wantRefused(t, "0041;[.0001.0001.0001]\n0041;[.FB00.0020.0002]", 2, api.ErrWeight) // and a twin
	wantRefused(t, "0041;\n0042;\n\n0041;[.0001.0001.0001]\nx", 4, api.ErrTwin)
	wantRefused(t, "0041;\n0042;\n00041\t;[.0001.0001.0001]", 3, api.ErrTwin)
	wantRefused(t, "0041 0042;\n0042 0041;\n0041;\n0041 0042 0041;\n 0041  000042;", 5, api.ErrTwin)
}

// lettersText are the lines of letters(n).
func lettersText(n int) string {
	var out strings.Builder
	for _, x := range letters(n) {
		s, _ := table.Line(x)
		out.WriteString(s + "\n")
	}
	return out.String()
}

func TestParseOfManyEntries(t *testing.T) {
	full := "@version 1\n" + lettersText(4000)
	wantParse(t, full, with(letters(4000)...))
	wantRefused(t, full+"\n9000;\nx", 4003, api.ErrLong)
	wantRefused(t, full+"0000;\n9000;", 4002, api.ErrTwin) // before there is one too many
	wantRefused(t, full+"9000;[.FB00.0020.0002]", 4002, api.ErrWeight)
	wantRefused(t, full+"D800;", 4002, api.ErrSeq)
	wantRefused(t, full+"9000;x", 4002, api.ErrLine)
	wantRefused(t, lettersText(4001), 4001, api.ErrLong)
	wantParse(t, full+"\n# 9000;\n@unified 3400..4DB5;FB80", api.Source{Version: "1", Ranges: []api.Implicit{split(0x3400, 0x4db5, 0xfb80)}, Entries: letters(4000)})
}

func TestParseOfRangesThatMayNotBe(t *testing.T) {
	for _, s := range []string{
		"@unified 0005..0004;FB40", "@unified 0004..0005;FB00", "@implicitweights 0004..0005;FB40", "@unified 0004..0005;0000", "@implicitweights 0004..0005;FFFF", "@implicitweights 0000..8000;FB00",
		"@unified 0004..0005;FB40\n@unified 0004..0005;FB40", "@unified 0004..0007;FB40\n@unified 0001..0004;FB40", "@unified 0001..10FFFF;FB40\n0042;\n@implicitweights 0100..0110;FB00",
	} {
		wantRefused(t, s+"\n@version 1\n0041;\n", 0, api.ErrImpl)
		wantRefused(t, s+"\n0041;\n", 0, api.ErrVersion)
		wantRefused(t, s+"\n0041;\nx", 2+strings.Count(s, "\n")+1, api.ErrLine)
	}
	var lines []string
	for _, x := range singles(101) {
		lines = append(lines, "@unified "+table.Show([]rune{x.From})+".."+table.Show([]rune{x.To})+";FB40")
	}
	wantRefused(t, "@version 1\n"+strings.Join(lines, "\n"), 0, api.ErrLong)
	wantRefused(t, "@version 1\n"+strings.Repeat("@unified 0005..0004;0000\n", 101), 0, api.ErrLong)
	wantRefused(t, strings.Join(lines, "\n"), 0, api.ErrVersion)
	wantRefused(t, strings.Join(lines, "\n")+"\nx", 102, api.ErrLine)
}

func TestParseOfLongTexts(t *testing.T) {
	head, filled := "@version 1\n", "0041 ; [.1C47.0020.0008]\n"
	full := head + strings.Repeat("\n", api.MaxTableText-len(head)-len(filled)) + filled
	wantParse(t, full, with(entry([]rune{0x41}, elem(0x1c47, 0x20, 8))))
	wantRefused(t, full+"\n", 0, api.ErrLong)
	wantRefused(t, "x"+full, 0, api.ErrLong)
	wantRefused(t, full[:len(full)-2]+"x\n", api.MaxTableText-len(head)-len(filled)+2, api.ErrLine)
	wantRefused(t, strings.Repeat("#", api.MaxTableText+1), 0, api.ErrLong)
	wantRefused(t, strings.Repeat("#", api.MaxTableText), 0, api.ErrVersion)
	wantRefused(t, strings.Repeat("x", 2*api.MaxTableText), 0, api.ErrLong)
	wantParse(t, head+strings.Repeat(" \t", (api.MaxTableText-len(head))/2), api.Source{Version: "1"})
	wantRefused(t, strings.Repeat("0041 ", api.MaxTableText/5), 1, api.ErrLine)
	wantRefused(t, strings.Repeat("0041 ", api.MaxTableText/5-1)+";", 1, api.ErrSeq)
	wantRefused(t, "0041 ; "+strings.Repeat("[.0001.0001.0001]", api.MaxTableText/18), 1, api.ErrLong)
	wantRefused(t, strings.Repeat("@unified 3400..4DB5;FB80\n", 150_000), 0, api.ErrVersion)
}

// P8.6

func wantWritten(t testing.TB, x api.Source, want string) {
	t.Helper()
	if got, e := table.Write(x); got != want || e != api.OK {
		t.Errorf("Write: %q, error %d; want %q", got, e, want)
	}
}

func TestWrite(t *testing.T) {
	wantWritten(t, some(), someText())
	wantWritten(t, api.Source{Version: "1"}, "@version 1\n")
	wantWritten(t, with(entry([]rune{0x41})), "@version 1\n0041 ; \n")
	wantWritten(t, api.Source{Version: "~;@", Ranges: []api.Implicit{whole(0, 5, 0xfb00), split(0x10ffff, 0x10ffff, 0xfb40)}}, "@version ~;@\n@implicitweights 0000..0005; FB00\n@unified 10FFFF..10FFFF; FB40\n")
	wantWritten(t, with(letters(4000)...), "@version 1\n"+lettersText(4000))
}

// The greatest table there may be is still read.
func TestWriteOfTheGreatest(t *testing.T) {
	x := api.Source{Version: strings.Repeat("v", 32), Ranges: singles(100)}
	for i := range x.Ranges {
		x.Ranges[i].From, x.Ranges[i].To = x.Ranges[i].From+0x100000, x.Ranges[i].To+0x100000
	}
	for i := range rune(4000) {
		codes := slices.Repeat([]rune{0x10ffff}, 8)
		codes[i%8] -= i
		x.Entries = append(x.Entries, entry(codes, slices.Repeat([]api.Element{varied(0xfaff, 0x1ff, 0x3f)}, 16)...))
	}
	s, e := table.Write(x)
	wantErr(t, "Write", e, api.OK)
	wantParse(t, s, x)
}
