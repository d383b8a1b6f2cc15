package valid_test

import (
	"regexp"
	"strconv"
	"strings"
	"testing"

	"lectern/api"
	"lectern/tailor"
	"lectern/valid"
)

// P11.4

// chapter is what the chapter tells, as it stands there.
const chapter = `
0000 ; [.0000.0000.0000]
200D ; [.0000.0000.0000]
0020 ; [*0201.0020.0002]
005F ; [*0202.0020.0002]
002D ; [*0203.0020.0002]
002C ; [*0204.0020.0002]
003B ; [*0205.0020.0002]
003A ; [*0206.0020.0002]
0021 ; [*0207.0020.0002]
003F ; [*0208.0020.0002]
002E ; [*0209.0020.0002]
0027 ; [*020A.0020.0002]
0022 ; [*020B.0020.0002]
0028 ; [*020C.0020.0002]
0029 ; [*020D.0020.0002]
0024 ; [.0301.0020.0002]
002B ; [.0302.0020.0002]
003C ; [.0303.0020.0002]
003D ; [.0304.0020.0002]
003E ; [.0305.0020.0002]
0030 ; [.0402.0020.0002]
0031 ; [.0404.0020.0002]
0032 ; [.0406.0020.0002]
0033 ; [.0408.0020.0002]
0034 ; [.040A.0020.0002]
0035 ; [.040C.0020.0002]
0036 ; [.040E.0020.0002]
0037 ; [.0410.0020.0002]
0038 ; [.0412.0020.0002]
0039 ; [.0414.0020.0002]
0061 ; [.0510.0020.0002]
0041 ; [.0510.0020.0008]
0062 ; [.0520.0020.0002]
0042 ; [.0520.0020.0008]
0063 ; [.0530.0020.0002]
0043 ; [.0530.0020.0008]
0064 ; [.0540.0020.0002]
0044 ; [.0540.0020.0008]
0065 ; [.0550.0020.0002]
0045 ; [.0550.0020.0008]
0066 ; [.0560.0020.0002]
0046 ; [.0560.0020.0008]
0067 ; [.0570.0020.0002]
0047 ; [.0570.0020.0008]
0068 ; [.0580.0020.0002]
0048 ; [.0580.0020.0008]
0069 ; [.0590.0020.0002]
0049 ; [.0590.0020.0008]
006A ; [.05A0.0020.0002]
004A ; [.05A0.0020.0008]
006B ; [.05B0.0020.0002]
004B ; [.05B0.0020.0008]
006C ; [.05C0.0020.0002]
004C ; [.05C0.0020.0008]
006D ; [.05D0.0020.0002]
004D ; [.05D0.0020.0008]
006E ; [.05E0.0020.0002]
004E ; [.05E0.0020.0008]
006F ; [.05F0.0020.0002]
004F ; [.05F0.0020.0008]
0070 ; [.0600.0020.0002]
0050 ; [.0600.0020.0008]
0071 ; [.0610.0020.0002]
0051 ; [.0610.0020.0008]
0072 ; [.0620.0020.0002]
0052 ; [.0620.0020.0008]
0073 ; [.0630.0020.0002]
0053 ; [.0630.0020.0008]
0074 ; [.0640.0020.0002]
0054 ; [.0640.0020.0008]
0075 ; [.0650.0020.0002]
0055 ; [.0650.0020.0008]
0076 ; [.0660.0020.0002]
0056 ; [.0660.0020.0008]
0077 ; [.0670.0020.0002]
0057 ; [.0670.0020.0008]
0078 ; [.0680.0020.0002]
0058 ; [.0680.0020.0008]
0079 ; [.0690.0020.0002]
0059 ; [.0690.0020.0008]
007A ; [.06A0.0020.0002]
005A ; [.06A0.0020.0008]
0300 ; [.0000.0025.0002]
0301 ; [.0000.0024.0002]
0302 ; [.0000.0027.0002]
0303 ; [.0000.002D.0002]
0304 ; [.0000.0032.0002]
0307 ; [.0000.002E.0002]
0308 ; [.0000.002B.0002]
0323 ; [.0000.0042.0002]
0327 ; [.0000.0030.0002]
0328 ; [.0000.0031.0002]
0338 ; [.0000.002F.0002]
0345 ; [.0000.0034.0002]
030A ; [.0000.0029.0002]
00E6 ; [.0510.0020.0004][.0000.0110.0004][.0550.0020.0004]
00DF ; [.0630.0020.0004][.0630.0020.001F]
03B1 ; [.0801.0020.0002]
03A9 ; [.0818.0020.0008]
03C9 ; [.0818.0020.0002]
03B1 0301 ; [.0802.0020.0002]
`

var elementForm = regexp.MustCompile(`\[([.*])([0-9A-F]{4})\.([0-9A-F]{4})\.([0-9A-F]{4})\]`)

func number(t *testing.T, s string) int {
	t.Helper()
	n, e := strconv.ParseInt(s, 16, 32)
	if e != nil {
		t.Fatal(e)
	}
	return int(n)
}

// told are the entries of the chapter. An element without any weight, alone, stands for no element.
func told(t *testing.T) []api.Entry {
	var out []api.Entry
	for _, line := range strings.Split(strings.TrimSpace(chapter), "\n") {
		codes, elements, _ := strings.Cut(line, ";")
		var x api.Entry
		for _, s := range strings.Fields(codes) {
			x.Codes = append(x.Codes, rune(number(t, s)))
		}
		for _, m := range elementForm.FindAllStringSubmatch(elements, -1) {
			e := api.Element{P: number(t, m[2]), S: number(t, m[3]), T: number(t, m[4]), Var: m[1] == "*"}
			if e != (api.Element{}) {
				x.Elements = append(x.Elements, e)
			}
		}
		out = append(out, x)
	}
	return out
}

func TestSmall(t *testing.T) {
	s := valid.Small()
	want(t, "version", s.Version, "small-1")
	if w := (api.Source{Version: "small-1", Entries: told(t), Ranges: []api.Implicit{
		{From: 0x3400, To: 0x4DB5, Base: 0xFB80},
		{From: 0x4E00, To: 0x9FD5, Base: 0xFB40},
		{From: 0x17000, To: 0x187EC, Base: 0xFB00, Whole: true},
		{From: 0x20000, To: 0x2A6D6, Base: 0xFB80},
	}}); !sameSource(s, w) || !valid.Same(s, w) {
		t.Errorf("Small: %s\nwant %s", showSource(s), showSource(w))
	}
	want(t, "entries", len(s.Entries), 101)
	wantCheck(t, "Small", s, 0, api.OK)
	wantCheck(t, "Small, sorted", valid.Sort(s), 0, api.OK)
	want(t, "Top", valid.Top(s), varied(0x818, 0x110, 0x1f))
	for _, n := range noData() {
		wantCheckBy(t, n, "Small, without data", s, 0, api.OK)
	}
}

func TestSmallIsSmallEachTime(t *testing.T) {
	first := valid.Small()
	for range 3 {
		want(t, "Small", valid.Same(valid.Small(), first), true)
	}
}

// What rules make of it is looked at like any other: it may be well formed, or not.
func TestSmallTailored(t *testing.T) {
	for text, x := range map[string]struct {
		place int
		e     api.Errno
	}{
		"":                        {0, api.OK},
		"&b < a":                  {0, api.OK},
		"&a < ch <<< Ch":          {0, api.OK},
		"&a << \u00e9":            {0, api.OK},
		"&a < q\u0301":            {0, api.OK},
		"&a < q\u0301 < q\u0301x": {0, api.OK},
		"&' ' < a":                {0, api.OK}, // it is variable then
		"&\u0323 << q":            {0, api.OK},
		"&a < q\u0323\u0301":      {101, api.ErrPrefix},
		"&a << b << c << d":       {0, api.OK},
		"&a << b << c << d << e":  {83, api.ErrOrder}, // as far as U+0301
		"&' ' = x/y":              {76, api.ErrVar},
	} {
		l, _, e := tailor.Parse(text)
		want(t, "Parse of "+text, e, api.OK)
		s, _, e := tailor.Apply(data(t), valid.Small(), l, "2")
		want(t, "Apply of "+text, e, api.OK)
		wantCheck(t, "Small with "+text, s, x.place, x.e)
	}
}
