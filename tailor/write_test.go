package tailor_test

import (
	"math"
	"slices"
	"strings"
	"testing"

	"lectern/api"
	"lectern/tailor"
)

// P10.1: Write

// wantWritten asks for a text that is read as the rules, P10.7.
func wantWritten(t testing.TB, l ...api.Rule) string {
	t.Helper()
	s, e := tailor.Write(l)
	if e != api.OK {
		t.Errorf("Write of %v: error %d", l[:min(len(l), 5)], e)
		return ""
	}
	if len(s) > api.MaxRuleText {
		t.Errorf("Write of %v: %d bytes", l[:min(len(l), 5)], len(s))
	}
	wantParse(t, s, l...)
	return s
}

func wantNotWritten(t testing.TB, what string, l []api.Rule, err api.Errno) {
	t.Helper()
	if s, e := tailor.Write(l); s != "" || e != err {
		t.Errorf("Write of %s: %q, error %d; want none, error %d", what, short(s), e, err)
	}
}

func TestWrite(t *testing.T) {
	wantWritten(t)
	wantWritten(t, reset("a"))
	wantWritten(t, reset("a"), reset("b"), rule(1, "c", ""), rule(2, "d", ""), rule(3, "e", ""), rule(4, "f", ""), reset("g"))
	wantWritten(t, reset("a"), rule(1, "c", "x"), rule(2, "d", "yz"), rule(3, "e", " "), rule(4, "f", "/"))
	for _, s := range []string{
		" ", "\t", "\n", "&", "<", "=", "/", "#", "'", `\`, "''", "'''", " '", "' ", "\n\n", "'\n", "\n'", " \n", "\n ", "a b", "a'b", "a\nb", "a b'c d", "a 'b' c", `\u0041`, `\\`, "#\n#", "''a b''", "a'' ''b",
		"\x00", "\r", "\v\f", "\ufeff", "\u00e9 \u20ac\U0001f600'\n\U0010ffff", "\ud7ff\ue000", "&a<b", "<<<", "'a''b'", "'\n'\n'", " ' ' ", "\t'\n'\t",
	} {
		wantWritten(t, reset(s))
		wantWritten(t, reset(s), rule(1, s, s), rule(4, s, ""), reset(s))
	}
}

func TestWriteOfNoRules(t *testing.T) {
	for what, l := range map[string][]api.Rule{
		"a relation ahead":          {rule(1, "a", "")},
		"another one":               {rule(4, "a", ""), reset("b")},
		"a kind below":              {reset("a"), rule(-1, "b", "")},
		"a kind above":              {reset("a"), rule(5, "b", "")},
		"the least kind":            {reset("a"), rule(math.MinInt, "b", "")},
		"the greatest kind":         {reset("a"), rule(math.MaxInt, "b", "")},
		"no kind ahead":             {rule(5, "b", "")},
		"no text":                   {reset("a"), rule(1, "", "b")},
		"no text of a reset":        {reset("")},
		"a rule that is zero":       {reset("a"), {}},
		"an empty text":             {{Text: []rune{}}},
		"an extension of a reset":   {rule(0, "a", "b")},
		"such a one behind":         {reset("a"), rule(1, "b", "c"), rule(0, "a", "b")},
		"a surrogate":               {{Text: []rune{0xd800}}},
		"the last one":              {reset("a"), {Kind: 1, Text: []rune{'a', 0xdfff}}},
		"a number below":            {reset("a"), {Kind: 1, Text: []rune{-1, 'a'}}},
		"a number above":            {reset("a"), {Kind: 1, Text: []rune{0x110000}}},
		"no scalar in an extension": {reset("a"), {Kind: 1, Text: []rune{'a'}, Ext: []rune{'a', 0xd800}}},
	} {
		wantNotWritten(t, what, l, api.ErrRules)
		wantNotWritten(t, what+", and many", append(slices.Clone(l), manyRules(api.MaxRules)...), api.ErrRules)
		wantNotWritten(t, what+", and long ones", append(slices.Clone(l), reset(strung(api.MaxRuleText))), api.ErrRules)
		if l[0].Kind == api.RuleReset {
			wantNotWritten(t, what+", behind many", append(manyRules(api.MaxRules), l...), api.ErrRules)
			wantNotWritten(t, what+", behind long ones", append([]api.Rule{reset(strung(api.MaxRuleText))}, l...), api.ErrRules)
		}
		got, at, e := tailor.Apply(nil, small(), l, "new")
		if !sameSource(got, api.Source{}) || at != 0 || e != api.ErrRules {
			t.Errorf("Apply of %s: place %d, error %d", what, at, e)
		}
	}
	wantWritten(t, api.Rule{Text: []rune{'a'}, Ext: []rune{}})
}

func manyRules(n int) []api.Rule {
	out := make([]api.Rule, n)
	for i := range out {
		out[i] = reset("a")
	}
	return out
}

func TestWriteOfManyRules(t *testing.T) {
	wantWritten(t, manyRules(api.MaxRules)...)
	wantNotWritten(t, "too many", manyRules(api.MaxRules+1), api.ErrLong)
	wantNotWritten(t, "far too many", manyRules(100_000), api.ErrLong)
}

// Whatever Parse takes is written again in no more bytes.
func TestWriteOfLongRules(t *testing.T) {
	most := api.MaxRuleText
	for _, s := range []string{
		"&" + strung(most-1), "&a<" + strung(most-3), "&a<b/" + strung(most-5), "&" + strings.Repeat("\u00e9", most/2-1) + "a", "&" + strings.Repeat("\U0001f600", most/4-1) + "abc",
		"&'" + strings.Repeat(" ", most-3) + "'", "&'" + strings.Repeat(`\&`, most/2-2) + "a'", "&a" + strings.Repeat("'", most-2), "&abc" + strings.Repeat(`\u000A`, (most-4)/6), "&a'" + strings.Repeat("# b", (most-4)/3) + "'",
		"&'#'''" + strings.Repeat("a", most-6), "&a'#\t'" + strings.Repeat("''", most/2-6) + `\u000a`,
	} {
		l := rules(t, s)
		got := wantWritten(t, l...)
		if len(got) > len(s) {
			t.Errorf("Write of %q: %d bytes, more than %d", short(s), len(got), len(s))
		}
		l[len(l)-1].Text = append(l[len(l)-1].Text, 'a', 'a', 'a', 'a', 'a', 'a')
		wantNotWritten(t, "one that is longer than "+short(s), l, api.ErrLong)
	}
	wantNotWritten(t, "a long one", []api.Rule{reset(strung(most))}, api.ErrLong)
	wantNotWritten(t, "a long extension", []api.Rule{reset("a"), rule(1, "b", strung(most-4))}, api.ErrLong)
	wantNotWritten(t, "a longer one ahead of others", append([]api.Rule{reset(strung(2 * most))}, manyRules(100)...), api.ErrLong)
	wantNotWritten(t, "many that are long together", slices.Repeat([]api.Rule{reset(strung(100))}, 700), api.ErrLong)
	wantNotWritten(t, "bytes, not numbers", []api.Rule{reset(strings.Repeat("\u20ac", most/2))}, api.ErrLong)
}

func TestWriteLeavesRulesAlone(t *testing.T) {
	l := []api.Rule{{Text: []rune{'a', ' ', -1}[:2]}, {Kind: 1, Text: []rune{'b', -1}[:1], Ext: []rune{'c', -1}[:1]}, {Kind: 9}}
	wantWritten(t, l[:2]...)
	wantList(t, "a text", l[0].Text[:3], []rune{'a', ' ', -1})
	wantList(t, "a text", l[1].Text[:2], []rune{'b', -1})
	wantList(t, "an extension", l[1].Ext[:2], []rune{'c', -1})
	want(t, "what is behind", l[2].Kind, 9)
}

// P10.1: Same

func TestSame(t *testing.T) {
	l := []api.Rule{reset("a"), rule(1, "bc", "d"), rule(4, "e", ""), {Kind: 77, Text: []rune{-1, 0xd800}}}
	want(t, "with itself", tailor.Same(l, l), true)
	want(t, "of none", tailor.Same(nil, []api.Rule{}), true)
	empty := []api.Rule{reset("a"), rule(1, "bc", "d"), {Kind: 4, Text: []rune{'e'}, Ext: []rune{}}, {Kind: 77, Text: []rune{-1, 0xd800}}}
	want(t, "with empty lists", tailor.Same(l, empty), true)
	want(t, "with empty lists", tailor.Same([]api.Rule{{Text: []rune{}}}, []api.Rule{{}}), true)
	for what, change := range map[string]func(m []api.Rule) []api.Rule{
		"less":              func(m []api.Rule) []api.Rule { return m[:3] },
		"the first is less": func(m []api.Rule) []api.Rule { return m[1:] },
		"none":              func(m []api.Rule) []api.Rule { return nil },
		"more":              func(m []api.Rule) []api.Rule { return append(m, api.Rule{}) },
		"another kind":      func(m []api.Rule) []api.Rule { m[0].Kind = 2; return m },
		"a kind that isn't": func(m []api.Rule) []api.Rule { m[3].Kind = 78; return m },
		"another text":      func(m []api.Rule) []api.Rule { m[1].Text[1] = 'x'; return m },
		"a longer text":     func(m []api.Rule) []api.Rule { m[1].Text = []rune("bcd"); return m },
		"a shorter text":    func(m []api.Rule) []api.Rule { m[1].Text = []rune("b"); return m },
		"other numbers":     func(m []api.Rule) []api.Rule { m[3].Text[0] = -2; return m },
		"other extensions":  func(m []api.Rule) []api.Rule { m[1].Ext[0] = 'x'; return m },
		"no extension":      func(m []api.Rule) []api.Rule { m[1].Ext = nil; return m },
		"an extension":      func(m []api.Rule) []api.Rule { m[2].Ext = []rune("x"); return m },
		"another order":     func(m []api.Rule) []api.Rule { m[0], m[1] = m[1], m[0]; return m },
	} {
		var m []api.Rule
		for _, x := range l {
			m = append(m, api.Rule{Kind: x.Kind, Text: slices.Clone(x.Text), Ext: slices.Clone(x.Ext)})
		}
		want(t, "a copy", tailor.Same(l, m), true)
		m = change(m)
		want(t, what, tailor.Same(l, m), false)
		want(t, what+", the other way", tailor.Same(m, l), false)
	}
	ends := []api.Rule{{Text: []rune("ax")[:1]}}
	want(t, "what is behind the end", tailor.Same(ends, []api.Rule{{Text: []rune("ay")[:1]}}), true)
}
