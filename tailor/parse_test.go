package tailor_test

import (
	"slices"
	"strings"
	"sync"
	"testing"

	"lectern/api"
	"lectern/tailor"
)

// P10.1: Parse

func wantParse(t testing.TB, s string, want ...api.Rule) {
	t.Helper()
	got, at, e := tailor.Parse(s)
	if !slices.EqualFunc(got, want, sameRule) || at != 0 || e != api.OK {
		t.Errorf("Parse of %q: %v, place %d, error %d; want %v", short(s), got, at, e, want)
	}
}

func wantRefused(t testing.TB, s string, place int, err api.Errno) {
	t.Helper()
	got, at, e := tailor.Parse(s)
	if got != nil || at != place || e != err {
		t.Errorf("Parse of %q: %d rules, place %d, error %d; want none, place %d, error %d", short(s), len(got), at, e, place, err)
	}
}

func TestParseOfNoRules(t *testing.T) {
	for _, s := range []string{"", " ", "\t", "\n", " \t\n\n ", "#", "# x", "#\n", "#&a\n", " # &a < b\n\t#'\\\n# ", "##\n#", "#\x00\r"} {
		wantParse(t, s)
	}
}

func TestParseOfEachKind(t *testing.T) {
	wantParse(t, "&a", reset("a"))
	wantParse(t, "&a<b", reset("a"), rule(api.RulePrimary, "b", ""))
	wantParse(t, "&a<<b", reset("a"), rule(api.RuleSecondary, "b", ""))
	wantParse(t, "&a<<<b", reset("a"), rule(api.RuleTertiary, "b", ""))
	wantParse(t, "&a=b", reset("a"), rule(api.RuleSame, "b", ""))
	wantParse(t, "&a<b/x<<c/y<<<d/z=e/v", reset("a"), rule(1, "b", "x"), rule(2, "c", "y"), rule(3, "d", "z"), rule(4, "e", "v"))
	wantParse(t, "&a&b&c", reset("a"), reset("b"), reset("c"))
	wantParse(t, "&a<b&c<d&e", reset("a"), rule(1, "b", ""), reset("c"), rule(1, "d", ""), reset("e"))
	wantParse(t, "&a<b/c&d", reset("a"), rule(1, "b", "c"), reset("d"))
	wantParse(t, "&abc < def / ghi", reset("abc"), rule(1, "def", "ghi"))
}

// Blanks, tabs, newlines and comments may stand wherever a token ends; nothing need.
func TestParseOfWhatIsNothing(t *testing.T) {
	tokens := []string{"", "&", "ab", "<", "c", "/", "de", "<<<", "f", "=", "g", "/", "h", "&", "i", ""}
	all := []api.Rule{reset("ab"), rule(1, "c", "de"), rule(3, "f", ""), rule(4, "g", "h"), reset("i")}
	for _, s := range []string{"", " ", "\t", "\n", " \t\n \n", "#\n", "# x\n", "#&<\n", " # '\n\t", "#1\n#2\n", "\n#\\\n", "## #\n \n##\n"} {
		wantParse(t, strings.Join(tokens, s), all...)
	}
	for _, s := range []string{"#", "# <", " #'", "\n#\\u", "\t# &a/"} { // up to the end
		wantParse(t, strings.Join(tokens, "")+s, all...)
	}
	wantParse(t, "&a# x\r < b\n<c", reset("a"), rule(1, "c", "")) // a byte 13 ends no line
}

func TestParseOfStrings(t *testing.T) {
	for s, want := range map[string]string{
		"a": "a", "abc": "abc", "\u00e9\u20ac\U0001f600": "\u00e9\u20ac\U0001f600", "\x00": "\x00", "\r": "\r", "a\rb\v\f": "a\rb\v\f", "\x7f\u0080\u00a0\u2028\u3000\ufeff": "\x7f\u0080\u00a0\u2028\u3000\ufeff",
		"!\"$%()*+,-.0123456789:;>?@[]^_`{|}~": "!\"$%()*+,-.0123456789:;>?@[]^_`{|}~", "\U0010ffff\ud7ff\ue000": "\U0010ffff\ud7ff\ue000",
		`\u0041`: "A", `\u00e9`: "\u00e9", `\u00E9`: "\u00e9", `\uAbCd`: "\uabcd", `\u0000`: "\x00", `\uFFFF`: "\uffff", `\ud7ff`: "\ud7ff", `\uE000`: "\ue000", `\u000a`: "\n", `\u0027\u005c`: `'\`,
		`\U000041`: "A", `\U01f600`: "\U0001f600", `\U01F600`: "\U0001f600", `\U10ffff`: "\U0010ffff", `\U10FFFF`: "\U0010ffff", `\U00000A`: "\n", `\U000000`: "\x00",
		`\u00415`: "A5", `\U0000415`: "A5", `\u0041g`: "Ag", `\u0041\u0042`: "AB", `a\u0042c`: "aBc", `\u0041\U000042`: "AB", `\u0041u`: "Au", `\u0026a`: "&a", `a\u0020`: "a ",
		`'a'`: "a", `'x y'`: "x y", `''`: "'", `''''`: "''", `'a''b'`: "ab", `'''a'`: "'a", `'a'''`: "a'", `''a''`: "'a'", `'a b''''c'`: "a b'c", `a'b'c`: "abc", `'a'b'c'`: "abc", `''''''`: "'''",
		`'&'`: "&", `'< <<'`: "< <<", `'#'`: "#", `'\'`: `\`, `'\u0041'`: `\u0041`, `'/='`: "/=", "'\t'": "\t", "' '": " ", "'\r'": "\r", "'\x00'": "\x00", `'\'\u0041''`: `\A'`, `'é€'x`: "é€x", `''\u0041`: "'A",
		`a'#'b`: "a#b", `'#'#'`: "#", `a#'`: "a",
	} {
		wantParse(t, "&"+s, reset(want))
		wantParse(t, "&"+s+"\n<"+s+"\n/"+s+"\n= "+s+"\n", reset(want), rule(1, want, want), rule(4, want, ""))
	}
}

// Each scalar of two bytes or fewer stands for itself, or for nothing else, but quoted or escaped.
func TestParseOfEachScalar(t *testing.T) {
	for r := rune(0); r < 0x800; r++ {
		s := string(r)
		if !strings.ContainsRune(" \t\n&<=/#'\\", r) {
			wantParse(t, "&"+s+"x"+s, reset(s+"x"+s))
			wantRefused(t, "&a "+s, 3, api.ErrRules)
		}
		if r != '\'' && r != '\n' {
			wantParse(t, "&'"+s+"'", reset(s))
		}
	}
}

func TestParseOfNoEscapes(t *testing.T) {
	for _, s := range []string{
		`\`, `\u`, `\u0`, `\u00`, `\u004`, `\U`, `\U0`, `\U00004`, `\u 0041`, `\u004g`, `\ug041`, `\u-041`, `\u+041`, `\u0x41`, `\u_041`, `\u0_41`, `\u004 1`, `\u004` + "\n", `\u00é`, `\u004é`, `\u0é41`,
		`\U00004g`, `\U-00041`, `\U+00041`, `\U0x0041`, `\U110000`, `\U110041`, `\UFFFFFF`, `\U00d800`, `\U00DFFF`, `\ud800`, `\uDFFF`, `\uDBFF`, `\uDC00`, `\U0041`, `\U00041 `, `\U0041/z`, `\u004/z`, `\u004'1'`, `\u'0041'`,
		`\n`, `\x41`, `\\`, `\'`, `\&`, `\ `, `\#`, `\é`, `\1`, `\V000041`, `\t`, "\\\n", "\\\x00", `\u000` + "\x00", `\U{41}`, `\u{0041}`,
	} {
		wantRefused(t, "&"+s, 1, api.ErrRules)
		wantRefused(t, "&\n# \\\n "+s+" < b", 7, api.ErrRules)
		wantRefused(t, "&ab'c'"+s, 6, api.ErrRules)
		wantRefused(t, `&\u0041`+s, 7, api.ErrRules)
		wantRefused(t, "&a<b/"+s, 5, api.ErrRules)
	}
}

func TestParseOfNoQuotes(t *testing.T) {
	for s, at := range map[string]int{ // quotes ahead of it may be ones
		`'`: 0, `'a`: 0, `'a b`: 0, "'\n'": 0, "'a\nb'": 0, "'a\n": 0, "'\n": 0, `'#`: 0, `'\u0041`: 0, `'é`: 0, `'''`: 2, `'''''`: 4, `'a''b`: 3, "'a''\n'": 3, `'''a`: 2, `'a # '\u0041'` + "\n'": 12,
	} {
		wantRefused(t, "&"+s, 1+at, api.ErrRules)
		wantRefused(t, "& \t"+s, 3+at, api.ErrRules)
		wantRefused(t, "&ab"+s, 3+at, api.ErrRules)
		wantRefused(t, `&'a b'\u0041x`+s, 13+at, api.ErrRules)
		wantRefused(t, "&a<<b/"+s, 6+at, api.ErrRules)
	}
	wantRefused(t, "&''\n'", 4, api.ErrRules)
	wantRefused(t, "&a'b'\n'c' '", 6, api.ErrRules) // a string where none may stand, whatever is behind it
}

// What may not stand where it stands: the place of its first byte, or of the end.
func TestParseOfTokensThatMayNotStandThere(t *testing.T) {
	for s, at := range map[string]int{
		// instead of the first reset
		"a": 0, " a": 1, "<a": 0, "<<a": 0, "<<<a": 0, "=a": 0, "/a": 0, "'a'": 0, `\u0041`: 0, `\`: 0, "'": 0, "#\n\n<": 3, "\t \n=": 3, "é": 0, "\x00": 0, "\r&a": 0, " # &a\r\n\r&a": 7,
		// instead of a string
		"&": 1, "&  ": 3, "& # x": 5, "&#\n": 3, "&&": 1, "&&a": 1, "& <a": 2, "&<<a": 1, "&=": 1, "&/a": 1, "& \n#\n /": 6, "&a&": 3, "&a& ": 4, "&a<": 3, "&a <": 4, "&a< \t\n": 6, "&a<&b": 3, "&a< <b": 4,
		"&a<=b": 3, "&a=<b": 3, "&a==b": 3, "&a</b": 3, "&a<<<<b": 5, "&a<<<<<<b": 5, "&a<< <b": 5, "&a<#b": 5, "&a<#b\n=c": 6, "&a<b/": 5, "&a<b/ ": 6, "&a<b//c": 5, "&a<b/<c": 5, "&a<b/&c": 5, "&a<b/=c": 5, "&a<b/# x": 8,
		// instead of a sign
		"&a b": 3, "&a\nb": 3, "&a#\nb": 4, "&a 'b'": 3, `&a \u0041`: 3, "&a \\": 3, "&a '": 3, `&a b\`: 3, "&a b'": 3, "&a<b c": 5, "&a<b/c d": 7, "&a<b\t'": 5, "&a<b/c\n\\": 7, "&a é": 3, "&a \x00": 3, "&a \r": 3, "&'a' 'b'": 5,
		// an extension that may not be
		"&a/b": 2, "&a /b": 3, "&a<b/c/d": 6, "&a<b/c /d": 7, "&a<b&c/d": 6, "&a #\n/b": 5,
		// instead of what may stand in a string
		"&a<b/c d<e": 7, "&a<b;c d": 7,
	} {
		wantRefused(t, s, at, api.ErrRules)
		if !strings.Contains(s, "#") && len(s) > at {
			wantRefused(t, s+"&\\'", at, api.ErrRules)
		}
	}
	wantParse(t, "&a<b;<c", reset("a"), rule(1, "b;", ""), rule(1, "c", ""))
}

func TestParseOfWhatIsNoText(t *testing.T) {
	for s, at := range map[string]int{"\xff": 0, "&a\xff": 2, "&a # \xc3": 5, "b\xff": 1, "&'\xed\xa0\x80'": 2, "&a<\xe2\x82": 3, "\\\x80": 1, "<<<<\xc0\x80": 4} {
		wantRefused(t, s, at, api.ErrUTF)
	}
}

func TestParseOfLongTexts(t *testing.T) {
	most := api.MaxRuleText
	wantParse(t, "&"+strung(most-1), reset(strung(most-1)))
	wantRefused(t, "&"+strung(most), 0, api.ErrLong)
	wantRefused(t, "<"+strung(most), 0, api.ErrLong)
	wantRefused(t, strings.Repeat("\xff", most+1), 0, api.ErrLong)
	wantRefused(t, strings.Repeat(" ", most-1)+"\xff", most-1, api.ErrUTF)
	wantParse(t, strings.Repeat("#", most))
	wantRefused(t, strings.Repeat("#", most+1), 0, api.ErrLong)
	wantRefused(t, "&a<b/"+strings.Repeat(" ", most-5), most, api.ErrRules)
	wantRefused(t, "&"+strings.Repeat("'", most-1), most-1, api.ErrRules) // an odd number of them
	wantParse(t, "&a"+strings.Repeat("'", most-2), reset("a"+strings.Repeat("'", most/2-1)))
}

func TestParseOfManyRules(t *testing.T) {
	most := api.MaxRules
	all := make([]api.Rule, most)
	for i := range all {
		all[i] = rule(1, "b", "")
	}
	all[0] = reset("a")
	full := "&a" + strings.Repeat("<b", most-1)
	wantParse(t, full, all...)
	wantParse(t, full+" # <c\n", all...)
	for _, s := range []string{"<c", "<<c", "<<<c", "=c", "&c", "<", "<<<", "<'", "<\\", "< d e", "&", "=/"} { // whatever stands behind it
		wantRefused(t, full+s, len(full), api.ErrLong)
		wantRefused(t, full+" \n#\n"+s, len(full)+4, api.ErrLong)
	}
	for _, s := range []string{"c", "'", "\\"} { // no sign
		wantRefused(t, full+" "+s, len(full)+1, api.ErrRules)
	}
	wantRefused(t, full+"/", len(full)+1, api.ErrRules)
	wantRefused(t, full+"/c/d<e", len(full)+2, api.ErrRules)
	wantRefused(t, full+"/c<e", len(full)+2, api.ErrLong)
	wantRefused(t, strings.Repeat("&a", most)+"&", 2*most, api.ErrLong)
	wantRefused(t, strings.Repeat("&a", 30_000), 2*most, api.ErrLong)
	wantRefused(t, strings.Repeat("&a", 30_000)+"\xff", 60_000, api.ErrUTF)
}

// P2 of the whole.

func TestParsedShareNothing(t *testing.T) {
	s := "&ab<cd/ef=g"
	for range 2 {
		l := rules(t, s)
		if !slices.EqualFunc(l, []api.Rule{reset("ab"), rule(1, "cd", "ef"), rule(4, "g", "")}, sameRule) {
			t.Errorf("Parse: %v", l)
		}
		want(t, "room behind the rules", cap(l), len(l))
		for _, x := range l {
			want(t, "room behind the text", cap(x.Text), len(x.Text))
			want(t, "room behind the extension", cap(x.Ext), len(x.Ext))
			clear(x.Text)
			clear(x.Ext)
		}
	}
}

func TestManyParseAtOnce(t *testing.T) {
	var all sync.WaitGroup
	for range 16 {
		all.Go(func() {
			for range 20 {
				wantParse(t, "&a<b/c", reset("a"), rule(1, "b", "c"))
				wantRefused(t, "&a<b c", 5, api.ErrRules)
			}
		})
	}
	all.Wait()
}
