package tailor_test

import (
	"slices"
	"strings"
	"sync"
	"testing"

	"lectern/api"
	"lectern/tailor"
	"lectern/weight"
)

// P10.4

// wantApplied holds Apply of the rules of a text to s against a table with these entries.
func wantApplied(t testing.TB, s api.Source, text string, entries ...api.Entry) {
	t.Helper()
	l := rules(t, text)
	was := cloned(s)
	got, at, e := tailor.Apply(data(t), s, l, "new")
	if whole := (api.Source{Version: "new", Ranges: s.Ranges, Entries: entries}); !sameSource(got, whole) || at != 0 || e != api.OK {
		t.Errorf("Apply of %q: %s\nplace %d, error %d; want %s", text, showSource(got), at, e, showSource(whole))
	}
	want(t, "what was given", sameSource(s, was), true)
	if !slices.EqualFunc(l, rules(t, text), sameRule) {
		t.Errorf("Apply has changed %q to %v", text, l)
	}
}

func wantNotApplied(t testing.TB, what string, s api.Source, l []api.Rule, place int, err api.Errno) {
	t.Helper()
	got, at, e := tailor.Apply(data(t), s, l, "new")
	if !sameSource(got, api.Source{}) || at != place || e != err {
		t.Errorf("Apply of %s: %s\nplace %d, error %d; want none, place %d, error %d", what, short(showSource(got)), at, e, place, err)
	}
}

// letters is a table of a, b and c, one behind the other, with an acute.
func letters() api.Source {
	return source(entry("a", elem(0x10, 0x20, 2)), entry("b", elem(0x11, 0x20, 2)), entry("c", elem(0x12, 0x20, 2)), entry("\u0301", elem(0, 0x24, 2)))
}

func TestApplyOfEachKind(t *testing.T) {
	a, acute := entry("a", elem(0x10, 0x20, 2)), entry("\u0301", elem(0, 0x24, 2))
	b, c := entry("b", elem(0x11, 0x20, 2)), entry("c", elem(0x12, 0x20, 2))
	wantApplied(t, letters(), "", letters().Entries...)
	wantApplied(t, letters(), "&a", letters().Entries...)
	wantApplied(t, letters(), "&a<x", a, entry("b", elem(0x12, 0x20, 2)), entry("c", elem(0x13, 0x20, 2)), acute, entry("x", elem(0x11, 0x20, 2)))
	wantApplied(t, letters(), "&a<<x", a, b, c, acute, entry("x", elem(0x10, 0x21, 2)))
	wantApplied(t, letters(), "&a<<<x", a, b, c, acute, entry("x", elem(0x10, 0x20, 3)))
	wantApplied(t, letters(), "&a=x", a, b, c, acute, entry("x", elem(0x10, 0x20, 2)))
	wantApplied(t, letters(), "&c<x", a, b, c, acute, entry("x", elem(0x13, 0x20, 2)))
	wantApplied(t, letters(), "&a\u0301<<x", a, b, c, acute, entry("x", elem(0x10, 0x20, 2), elem(0, 0x25, 2)))
	wantApplied(t, letters(), "&a\u0301<x", a, entry("b", elem(0x12, 0x20, 2)), entry("c", elem(0x13, 0x20, 2)), acute, entry("x", elem(0x11, 0x20, 2)))
	wantApplied(t, letters(), "&a\u0301=x", a, b, c, acute, entry("x", elem(0x10, 0x20, 2), elem(0, 0x24, 2)))
	wantApplied(t, letters(), "&bc<x", a, b, c, acute, entry("x", elem(0x11, 0x20, 2), elem(0x13, 0x20, 2)))
	wantApplied(t, letters(), "&ba<x", a, entry("b", elem(0x12, 0x20, 2)), entry("c", elem(0x13, 0x20, 2)), acute, entry("x", elem(0x12, 0x20, 2), elem(0x11, 0x20, 2)))
}

// Each relation is to what the one ahead of it has made; a reset begins anew, in the table as it is then.
func TestApplyOfRulesThatFollow(t *testing.T) {
	a, acute := entry("a", elem(0x10, 0x20, 2)), entry("\u0301", elem(0, 0x24, 2))
	b, c := entry("b", elem(0x13, 0x20, 2)), entry("c", elem(0x14, 0x20, 2))
	wantApplied(t, letters(), "&a<x<y", a, b, c, acute, entry("x", elem(0x11, 0x20, 2)), entry("y", elem(0x12, 0x20, 2)))
	wantApplied(t, letters(), "&a<x&a<y", a, b, c, acute, entry("x", elem(0x12, 0x20, 2)), entry("y", elem(0x11, 0x20, 2)))
	wantApplied(t, letters(), "&a<x<<y<<<z=v<w", a, b, c, acute, entry("x", elem(0x11, 0x20, 2)), entry("y", elem(0x11, 0x21, 2)), entry("z", elem(0x11, 0x21, 3)), entry("v", elem(0x11, 0x21, 3)), entry("w", elem(0x12, 0x20, 2)))
	wantApplied(t, letters(), "&a<x<<y&x<<z", a, entry("b", elem(0x12, 0x20, 2)), entry("c", elem(0x13, 0x20, 2)), acute, entry("x", elem(0x11, 0x20, 2)), entry("y", elem(0x11, 0x22, 2)), entry("z", elem(0x11, 0x21, 2)))
	wantApplied(t, letters(), "&a<<x<<<y&x<<<z", a, entry("b", elem(0x11, 0x20, 2)), entry("c", elem(0x12, 0x20, 2)), acute, entry("x", elem(0x10, 0x21, 2)), entry("y", elem(0x10, 0x21, 4)), entry("z", elem(0x10, 0x21, 3)))
	wantApplied(t, letters(), "&a=x<y&x<z", a, b, c, acute, entry("x", elem(0x10, 0x20, 2)), entry("y", elem(0x12, 0x20, 2)), entry("z", elem(0x11, 0x20, 2)))
	wantApplied(t, letters(), "&a&b&c<x", a, entry("b", elem(0x11, 0x20, 2)), entry("c", elem(0x12, 0x20, 2)), acute, entry("x", elem(0x13, 0x20, 2)))
	// The anchor stays as it is while others take from it, and so does what was given it by "=".
	wantApplied(t, letters(), "&ab=x<y", a, entry("b", elem(0x11, 0x20, 2)), entry("c", elem(0x13, 0x20, 2)), acute, entry("x", elem(0x10, 0x20, 2), elem(0x11, 0x20, 2)), entry("y", elem(0x10, 0x20, 2), elem(0x12, 0x20, 2)))
	wantApplied(t, letters(), "&ca=x=v<y", a, entry("b", elem(0x12, 0x20, 2)), entry("c", elem(0x13, 0x20, 2)), acute,
		entry("x", elem(0x13, 0x20, 2), elem(0x10, 0x20, 2)), entry("v", elem(0x13, 0x20, 2), elem(0x10, 0x20, 2)), entry("y", elem(0x13, 0x20, 2), elem(0x11, 0x20, 2)))
}

// The anchor ahead of the element that counts makes room, like the table's elements.
func TestApplyMovesTheAnchor(t *testing.T) {
	wantApplied(t, letters(), "&ca<x<y", entry("a", elem(0x10, 0x20, 2)), entry("b", elem(0x13, 0x20, 2)), entry("c", elem(0x14, 0x20, 2)), entry("\u0301", elem(0, 0x24, 2)),
		entry("x", elem(0x14, 0x20, 2), elem(0x11, 0x20, 2)), entry("y", elem(0x14, 0x20, 2), elem(0x12, 0x20, 2)))
}

func TestApplyToEntriesThatThereAre(t *testing.T) {
	a, b, acute := entry("a", elem(0x10, 0x20, 2)), entry("b", elem(0x11, 0x20, 2)), entry("\u0301", elem(0, 0x24, 2))
	wantApplied(t, letters(), "&b<a", entry("a", elem(0x12, 0x20, 2)), b, entry("c", elem(0x13, 0x20, 2)), acute)
	wantApplied(t, letters(), "&a<a", entry("a", elem(0x11, 0x20, 2)), entry("b", elem(0x12, 0x20, 2)), entry("c", elem(0x13, 0x20, 2)), acute)
	wantApplied(t, letters(), "&a<<c<<\u0301", a, b, entry("c", elem(0x10, 0x21, 2)), entry("\u0301", elem(0x10, 0x22, 2)))
	wantApplied(t, letters(), "&a<x<y<x", a, entry("b", elem(0x14, 0x20, 2)), entry("c", elem(0x15, 0x20, 2)), acute, entry("x", elem(0x13, 0x20, 2)), entry("y", elem(0x12, 0x20, 2)))
	wantApplied(t, letters(), "&a<ab&ab<<x", a, entry("b", elem(0x12, 0x20, 2)), entry("c", elem(0x13, 0x20, 2)), acute, entry("ab", elem(0x11, 0x20, 2)), entry("x", elem(0x11, 0x21, 2)))
	wantApplied(t, letters(), "&a<ab<abc&abc<<ab", a, entry("b", elem(0x13, 0x20, 2)), entry("c", elem(0x14, 0x20, 2)), acute, entry("ab", elem(0x12, 0x21, 2)), entry("abc", elem(0x12, 0x20, 2)))
}

func TestApplyOfExtensions(t *testing.T) {
	a, acute := entry("a", elem(0x10, 0x20, 2)), entry("\u0301", elem(0, 0x24, 2))
	b, c := entry("b", elem(0x11, 0x20, 2)), entry("c", elem(0x12, 0x20, 2))
	wantApplied(t, letters(), "&a<<x/b", a, b, c, acute, entry("x", elem(0x10, 0x21, 2), elem(0x11, 0x20, 2)))
	wantApplied(t, letters(), "&a=x/b\u0301", a, b, c, acute, entry("x", elem(0x10, 0x20, 2), elem(0x11, 0x20, 2), elem(0, 0x24, 2)))
	wantApplied(t, letters(), "&a=x/'\u4e00'", a, b, c, acute, entry("x", append([]api.Element{elem(0x10, 0x20, 2)}, weight.Implicit(0x4e00, weight.Unified())...)...))
	// In the table in which there is room already, ahead of the entry itself.
	wantApplied(t, letters(), "&a<x/b", a, entry("b", elem(0x12, 0x20, 2)), entry("c", elem(0x13, 0x20, 2)), acute, entry("x", elem(0x11, 0x20, 2), elem(0x12, 0x20, 2)))
	wantApplied(t, letters(), "&a<b/b", a, entry("b", elem(0x11, 0x20, 2), elem(0x12, 0x20, 2)), entry("c", elem(0x13, 0x20, 2)), acute)
	wantApplied(t, letters(), "&a<bc/bc", a, entry("b", elem(0x12, 0x20, 2)), entry("c", elem(0x13, 0x20, 2)), acute, entry("bc", elem(0x11, 0x20, 2), elem(0x12, 0x20, 2), elem(0x13, 0x20, 2)))
	// What is behind an entry's anchor is no anchor.
	wantApplied(t, letters(), "&a<<x/b<<<y", a, b, c, acute, entry("x", elem(0x10, 0x21, 2), elem(0x11, 0x20, 2)), entry("y", elem(0x10, 0x21, 3)))
	wantApplied(t, letters(), "&a=x/b=y/c", a, b, c, acute, entry("x", elem(0x10, 0x20, 2), elem(0x11, 0x20, 2)), entry("y", elem(0x10, 0x20, 2), elem(0x12, 0x20, 2)))
	// But it takes part in what is raised.
	wantApplied(t, letters(), "&a=x/b<y", a, entry("b", elem(0x12, 0x20, 2)), entry("c", elem(0x13, 0x20, 2)), acute, entry("x", elem(0x10, 0x20, 2), elem(0x12, 0x20, 2)), entry("y", elem(0x11, 0x20, 2)))
}

func TestApplyToWhatIsDecomposed(t *testing.T) {
	a, b, c, acute := entry("a", elem(0x10, 0x20, 2)), entry("b", elem(0x11, 0x20, 2)), entry("c", elem(0x12, 0x20, 2)), entry("\u0301", elem(0, 0x24, 2))
	wantApplied(t, letters(), "&\u00e1<<x", a, b, c, acute, entry("x", elem(0x10, 0x20, 2), elem(0, 0x25, 2)))
	wantApplied(t, letters(), "&a<<\u00e9", a, b, c, acute, entry("e\u0301", elem(0x10, 0x21, 2)))
	wantApplied(t, letters(), "&a<<x/\u00e1", a, b, c, acute, entry("x", elem(0x10, 0x21, 2), elem(0x10, 0x20, 2), elem(0, 0x24, 2)))
	wantApplied(t, letters(), "&a<<e\u0301<<\u00e9", a, b, c, acute, entry("e\u0301", elem(0x10, 0x22, 2)))
	wantApplied(t, letters(), "&a<<q\u0301\u0323", a, b, c, acute, entry("q\u0323\u0301", elem(0x10, 0x21, 2)))
	// Without data nothing is.
	got, at, e := tailor.Apply(nil, letters(), rules(t, "&a<<\u00e9"), "new")
	want(t, "without data", at, 0)
	wantErr(t, "without data", e, api.OK)
	want(t, "without data", string(got.Entries[4].Codes), "\u00e9")
}

func TestApplyBehindWeightsByRule(t *testing.T) {
	a, b, c, acute := entry("a", elem(0x10, 0x20, 2)), entry("b", elem(0x11, 0x20, 2)), entry("c", elem(0x12, 0x20, 2)), entry("\u0301", elem(0, 0x24, 2))
	wantApplied(t, letters(), "&\u4e00<x", a, b, c, acute, entry("x", elem(0xfb40, 0x20, 2), elem(0xce01, 0x20, 2)))
	wantApplied(t, letters(), "&\u4e00=x<<y", a, b, c, acute, entry("x", elem(0xfb40, 0x20, 2), elem(0xce00, 0, 0)), entry("y", elem(0xfb40, 0x20, 2), elem(0xce00, 1, 2)))
	wantApplied(t, letters(), "&q=x&x<<<y", a, b, c, acute, entry("x", elem(0xfbc0, 0x20, 2), elem(0x8071, 0, 0)), entry("y", elem(0xfbc0, 0x20, 2), elem(0x8071, 0, 1)))
}

func TestApplyOfVersions(t *testing.T) {
	for _, s := range []string{"", "1", "a b\n#", "\xff\x00", strings.Repeat("v", 1000)} {
		for _, text := range []string{"", "&a<x"} {
			got, at, e := tailor.Apply(data(t), letters(), rules(t, text), s)
			want(t, "version", got.Version, s)
			want(t, "place", at, 0)
			wantErr(t, "Apply", e, api.OK)
		}
	}
	got, _, e := tailor.Apply(nil, api.Source{}, nil, "")
	wantErr(t, "Apply of nothing", e, api.OK)
	want(t, "Apply of nothing", sameSource(got, api.Source{}), true)
}

// Errors

// many is a table with n entries, none of which is of ASCII.
func many(n int) api.Source {
	s := source()
	for i := range n {
		s.Entries = append(s.Entries, entry(string(rune(0x5000+i)), elem(0x10+i, 0x20, 2)))
	}
	return s
}

func TestApplyToNoTables(t *testing.T) {
	bad, noRange := []api.Rule{rule(1, "a", "")}, []api.Implicit{{From: 2, To: 1, Base: 0xfb40}}
	for what, x := range map[string]struct {
		s api.Source
		e api.Errno
	}{
		"no code points":      {source(entry("a"), api.Entry{}), api.ErrSeq},
		"many code points":    {source(entry("a"), entry(strung(9))), api.ErrSeq},
		"a surrogate":         {source(entry("a"), api.Entry{Codes: []rune{0xd800}}), api.ErrSeq},
		"many elements":       {source(entry("a"), entry("b", slices.Repeat([]api.Element{elem(1, 1, 1)}, 17)...)), api.ErrLong},
		"an element of rules": {source(entry("a"), entry("b", elem(0xfb00, 1, 1))), api.ErrWeight},
		"twins":               {source(entry("a"), entry("b"), entry("a", elem(1, 1, 1))), api.ErrTwin},
		"many entries":        {many(4001), api.ErrLong},
	} {
		wantNotApplied(t, what, x.s, nil, 0, x.e)
		wantNotApplied(t, what, x.s, rules(t, "&\x00<a"), 0, x.e)
		wantNotApplied(t, what+", no rules", x.s, bad, 0, x.e)
		wantNotApplied(t, what+", many rules", x.s, manyRules(2001), 0, x.e)
		x.s.Ranges = noRange
		wantNotApplied(t, what+", no ranges", x.s, nil, 0, x.e)
	}
	s := letters()
	s.Ranges = noRange
	wantNotApplied(t, "no ranges", s, nil, 0, api.ErrImpl)
	wantNotApplied(t, "no ranges", s, rules(t, "&\x00<a"), 0, api.ErrImpl)
	wantNotApplied(t, "no ranges, a long text", s, []api.Rule{reset(strung(5000))}, 0, api.ErrImpl)
	wantNotApplied(t, "no ranges, no rules", s, bad, 0, api.ErrRules)
	wantNotApplied(t, "no ranges, many rules", s, manyRules(2001), 0, api.ErrLong)
	s.Ranges = slices.Repeat(noRange, 101)
	wantNotApplied(t, "many ranges", s, nil, 0, api.ErrLong)
	wantNotApplied(t, "many ranges, no rules", s, bad, 0, api.ErrRules)
	wantNotApplied(t, "many rules", letters(), manyRules(2001), 0, api.ErrLong)
	wantNotApplied(t, "many, and no rules", letters(), append(manyRules(2001), bad[0], reset("")), 0, api.ErrRules)
	_, at, e := tailor.Apply(data(t), letters(), manyRules(2000), "new")
	want(t, "as many rules as may be", at, 0)
	wantErr(t, "as many rules as may be", e, api.OK)
}

func TestApplyOfLongTexts(t *testing.T) {
	most := api.MaxRunes
	ok := func(what string, l ...api.Rule) {
		t.Helper()
		_, at, e := tailor.Apply(data(t), letters(), l, "new")
		want(t, what, at, 0)
		wantErr(t, what, e, api.OK)
	}
	ok("a long reset", reset("a"), reset(strung(most)))
	wantNotApplied(t, "a longer one", letters(), []api.Rule{reset("a"), reset(strung(most + 1))}, 1, api.ErrSeq)
	wantNotApplied(t, "one that is far longer", letters(), []api.Rule{reset(strung(1_000_000))}, 0, api.ErrSeq)
	ok("as many code points as an entry may have", reset("a"), rule(1, strung(8), ""), rule(4, strings.Repeat("\u00e9", 4), ""))
	wantNotApplied(t, "one more", letters(), []api.Rule{reset("a"), rule(1, "b", ""), rule(1, strung(9), "")}, 2, api.ErrSeq)
	wantNotApplied(t, "one more", letters(), []api.Rule{reset("a"), rule(4, strung(9), "")}, 1, api.ErrSeq)
	wantNotApplied(t, "more when it is decomposed", letters(), []api.Rule{reset("a"), rule(1, strings.Repeat("\u00e9", 4)+"a", "")}, 1, api.ErrSeq)
	wantNotApplied(t, "far more", letters(), []api.Rule{reset("a"), rule(1, strung(most+1), "")}, 1, api.ErrSeq)
	wantNotApplied(t, "a long extension", letters(), []api.Rule{reset("a"), rule(1, "b", strung(most+1))}, 1, api.ErrSeq)
	wantNotApplied(t, "a long extension of one that has its elements", letters(), []api.Rule{reset("a"), rule(4, "b", strung(most+1))}, 1, api.ErrSeq)
	// Ahead of what else is wrong.
	s := letters()
	s.Entries = append(s.Entries, entry("\x00"))
	wantNotApplied(t, "nothing to come behind", s, []api.Rule{reset("\x00"), rule(1, strung(9), "")}, 1, api.ErrSeq)
	wantNotApplied(t, "nothing to come behind", s, []api.Rule{reset("\x00"), rule(1, "b", strung(most+1))}, 1, api.ErrSeq)
	wantNotApplied(t, "nothing to come behind", s, []api.Rule{reset("\x00"), rule(1, "b", strung(most))}, 1, api.ErrReset)
	ok("as many ignored ones as may be", reset("a"), rule(4, "\x00", ""), rule(4, "b", ""))
	got, _, e := tailor.Apply(data(t), s, []api.Rule{reset("a"), rule(2, "x", strings.Repeat("\x00", most))}, "new")
	wantErr(t, "a long extension that is ignored", e, api.OK)
	wantList(t, "a long extension that is ignored", got.Entries[5].Elements, []api.Element{elem(0x10, 0x21, 2)})
}

func TestApplyWhereNothingCanComeBehind(t *testing.T) {
	s := source(entry("a", elem(0x10, 0x20, 2)), entry("\x00"), entry("\u0301", elem(0, 0x24, 2)), entry("\u0302", elem(0, 0, 2)), entry("z", elem(0xfaff, 0x1ff, 0x3f)), entry("y", elem(0xfafe, 0x1fe, 0x3e)))
	for text, x := range map[string]struct {
		at int
		e  api.Errno
	}{
		"&\x00<x": {1, api.ErrReset}, "&\x00<<x": {1, api.ErrReset}, "&\x00<<<x": {1, api.ErrReset}, "&a&\x00<x": {2, api.ErrReset}, "&a<<b&\x00=c<d": {4, api.ErrReset}, "&a=\x00&\x00<<c&\u0301<e": {5, api.ErrReset},
		"&\u0301<x": {1, api.ErrReset}, "&\u0302<<x": {1, api.ErrReset}, "&\u0302<x": {1, api.ErrReset}, "&\u0301<<x<y": {2, api.ErrReset}, "&\u7fff<x": {1, api.ErrReset}, "&\u7bff<<x": {1, api.ErrReset},
		"&z<x": {1, api.ErrRoom}, "&z<<x": {1, api.ErrRoom}, "&z<<<x": {1, api.ErrRoom}, "&y<x": {1, api.ErrRoom}, "&a<x": {1, api.ErrRoom}, "&a<<x<y": {2, api.ErrRoom}, "&y<<x<<w": {2, api.ErrRoom}, "&y<<<x<<<w": {2, api.ErrRoom},
	} {
		wantNotApplied(t, text, s, rules(t, text), x.at, x.e)
		wantNotApplied(t, text+" and more", s, append(rules(t, text), reset(strung(5000))), x.at, x.e)
	}
	wantApplied(t, s, "&\x00=x", append(s.Entries, entry("x"))...)
	wantApplied(t, s, "&y<<x", append(s.Entries, entry("x", elem(0xfafe, 0x1ff, 2)))...)
	wantApplied(t, s, "&y<<<x", append(s.Entries, entry("x", elem(0xfafe, 0x1fe, 0x3f)))...)
}

func TestApplyUpToManyElements(t *testing.T) {
	s := letters()
	wantApplied(t, s, "&"+strung(16)+"=x", append(letters().Entries, entry("x", slices.Repeat(s.Entries[0].Elements, 16)...))...)
	wantApplied(t, s, "&a=x/"+strung(15), append(letters().Entries, entry("x", slices.Repeat(s.Entries[0].Elements, 16)...))...)
	for _, text := range []string{"&" + strung(17) + "=x", "&" + strung(17) + "<x", "&" + strung(17) + "<<<x", "&a=x/" + strung(16), "&ab<x/" + strung(15), "&a<<b/" + strung(4000), "&" + strung(4000) + "<<a"} {
		wantNotApplied(t, text, s, rules(t, text), 1, api.ErrLong)
		wantNotApplied(t, text, s, append([]api.Rule{reset("a"), rule(1, "y", "")}, rules(t, text+"=\x00<<<z")...), 3, api.ErrLong)
	}
	// What the anchor has too many of may be left out again.
	s.Entries = append(s.Entries, entry("\u0302", slices.Repeat([]api.Element{elem(0, 0, 3)}, 16)...))
	wantApplied(t, s, "&a\u0302\u0302<<x", append(s.Entries, entry("x", elem(0x10, 0x21, 2)))...)
}

func TestApplyUpToManyEntries(t *testing.T) {
	s := many(3999)
	full := append(cloned(s).Entries, entry("x", elem(0x5000, 0x20, 2)))
	s.Entries[0].Elements = []api.Element{elem(0x4fff, 0x20, 2)}
	full[0].Elements = s.Entries[0].Elements
	wantApplied(t, s, "&\u5000<x", full...)
	wantNotApplied(t, "one more", s, rules(t, "&\u5000<x<y"), 2, api.ErrLong)
	wantNotApplied(t, "one more", s, rules(t, "&\u5000<x=y"), 2, api.ErrLong)
	wantNotApplied(t, "one more, and no room", s, rules(t, "&\x00<x&\u5000\u5000=y&q=z"), 3, api.ErrLong)
	s.Entries = full
	wantNotApplied(t, "one more", s, rules(t, "&\u5000=y"), 1, api.ErrLong)
	full[4].Elements = full[0].Elements
	wantApplied(t, s, "&\u5000=\u5004", full...)
}

// What there is most of: rules, entries, elements, code points.
func TestApplyOfTheGreatest(t *testing.T) {
	s := many(4000)
	for i := range s.Entries {
		s.Entries[i].Codes = append(slices.Repeat([]rune{'a'}, 7), s.Entries[i].Codes...)
		s.Entries[i].Elements = slices.Repeat(s.Entries[i].Elements, 16)
	}
	l := manyRules(2000)
	for i, x := range s.Entries[:2000] {
		l[i].Text = x.Codes
		if i > 0 {
			l[i].Kind = 1
		}
	}
	got, at, e := tailor.Apply(data(t), s, l, "new")
	want(t, "place", at, 0)
	wantErr(t, "Apply", e, api.OK)
	want(t, "the last one", got.Entries[1999].Elements[15], elem(0x10+1999, 0x20, 2))
	want(t, "the one behind", got.Entries[2000].Elements[15], elem(0x10+2000+1999, 0x20, 2))
	l = l[:200]
	for i := range l {
		l[i] = reset(strings.Repeat("\u01d6", api.MaxRunes))
	}
	_, at, e = tailor.Apply(data(t), s, l, "new")
	want(t, "place", at, 0)
	wantErr(t, "Apply", e, api.OK)
}

// P2 of the whole.

func TestApplySharesNothing(t *testing.T) {
	s, l := letters(), append(rules(t, "&ab=x<y/c"), api.Rule{Kind: 9})[:3]
	s.Entries[0].Elements = append(s.Entries[0].Elements, elem(0x600, 1, 1))[:1]
	s.Entries = append(s.Entries, entry("z", elem(0x7000, 1, 1)))[:len(s.Entries)]
	l[1].Text = append(l[1].Text, -1)[:1]
	for range 2 {
		got, _, e := tailor.Apply(nil, s, l, "new")
		wantErr(t, "Apply", e, api.OK)
		want(t, "x", showElements(got.Entries[4].Elements), "[.0010.0020.0002][.0011.0020.0002]")
		want(t, "y", showElements(got.Entries[5].Elements), "[.0010.0020.0002][.0012.0020.0002][.0013.0020.0002]")
		want(t, "x", string(got.Entries[4].Codes), "x")
		want(t, "room behind the entries", cap(got.Entries), len(got.Entries))
		want(t, "room behind the ranges", cap(got.Ranges), len(got.Ranges))
		clear(got.Ranges)
		for i, x := range got.Entries {
			want(t, "room behind the code points", cap(x.Codes), len(x.Codes))
			want(t, "room behind the elements", cap(x.Elements), len(x.Elements))
			clear(x.Codes)
			clear(x.Elements)
			for _, other := range got.Entries[i+1:] {
				if len(other.Elements) > 0 && other.Elements[0] == (api.Element{}) {
					t.Errorf("%v shares what another one has", other)
				}
			}
		}
		clear(got.Entries)
	}
	want(t, "what was given", sameSource(s, letters()), true)
	wantList(t, "behind its elements", s.Entries[0].Elements[:2], []api.Element{elem(0x10, 0x20, 2), elem(0x600, 1, 1)})
	wantList(t, "behind its entries", s.Entries[:5][4].Elements, []api.Element{elem(0x7000, 1, 1)})
	want(t, "the rules", slices.EqualFunc(l, rules(t, "&ab=x<y/c"), sameRule), true)
	wantList(t, "behind a text", l[1].Text[:2], []rune{'x', -1})
	want(t, "behind the rules", l[:4][3].Kind, 9)
}

func TestManyApplyAtOnce(t *testing.T) {
	s := letters()
	var all sync.WaitGroup
	for range 16 {
		all.Go(func() {
			wantApplied(t, s, "&a<<x/b", append(letters().Entries, entry("x", elem(0x10, 0x21, 2), elem(0x11, 0x20, 2)))...)
			wantNotApplied(t, "no room", s, rules(t, "&\u0301<x"), 1, api.ErrReset)
		})
	}
	all.Wait()
}
