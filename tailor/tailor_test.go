package tailor_test

import (
	"slices"
	"strings"
	"testing"

	"lectern/api"
	"lectern/norms"
	"lectern/table"
	"lectern/tailor"
	"lectern/weight"
)

func wantErr(t testing.TB, what string, got, want api.Errno) {
	t.Helper()
	if got != want {
		t.Errorf("%s: error %d, want %d", what, got, want)
	}
}

func want[T comparable](t testing.TB, what string, got, want T) {
	t.Helper()
	if got != want {
		t.Errorf("%s: %v, want %v", what, got, want)
	}
}

func wantList[T comparable](t testing.TB, what string, got, want []T) {
	t.Helper()
	if !slices.Equal(got, want) {
		t.Errorf("%s: %v, want %v", what, got, want)
	}
}

func elem(p, s, t int) api.Element { return api.Element{P: p, S: s, T: t} }

func varied(p, s, t int) api.Element { return api.Element{P: p, S: s, T: t, Var: true} }

func entry(codes string, l ...api.Element) api.Entry {
	return api.Entry{Codes: []rune(codes), Elements: l}
}

func source(l ...api.Entry) api.Source {
	return api.Source{Version: "old", Ranges: weight.Unified(), Entries: l}
}

// small is a table with letters of one and of two code points, marks, a variable one, and one that is ignored.
func small() api.Source {
	return source(
		entry("\x00"),
		entry(" ", varied(0x201, 0x20, 2)),
		entry("a", elem(0x510, 0x20, 2)),
		entry("A", elem(0x510, 0x20, 8)),
		entry("b", elem(0x511, 0x20, 2)),
		entry("c", elem(0x530, 0x20, 2)),
		entry("ch", elem(0x535, 0x20, 2)),
		entry("h", elem(0x580, 0x20, 2)),
		entry("\u00e6", elem(0x510, 0x20, 4), elem(0, 0x110, 4), elem(0x550, 0x20, 4)),
		entry("\u0301", elem(0, 0x24, 2)),
		entry("\u0323", elem(0, 0x42, 2)),
	)
}

func data(t testing.TB) *norms.Norms {
	t.Helper()
	n, e := norms.Load(norms.Small())
	if e != api.OK {
		t.Fatal(e)
	}
	return n
}

func rule(kind int, text, ext string) api.Rule {
	return api.Rule{Kind: kind, Text: []rune(text), Ext: []rune(ext)}
}

func reset(text string) api.Rule { return rule(api.RuleReset, text, "") }

// rules are those of a text that has to be one.
func rules(t testing.TB, s string) []api.Rule {
	t.Helper()
	l, at, e := tailor.Parse(s)
	if at != 0 || e != api.OK {
		t.Fatalf("Parse of %q: place %d, error %d", s, at, e)
	}
	return l
}

func sameEntry(a, b api.Entry) bool {
	return slices.Equal(a.Codes, b.Codes) && slices.Equal(a.Elements, b.Elements)
}

func sameSource(a, b api.Source) bool {
	return a.Version == b.Version && slices.Equal(a.Ranges, b.Ranges) && slices.EqualFunc(a.Entries, b.Entries, sameEntry)
}

func sameRule(a, b api.Rule) bool {
	return a.Kind == b.Kind && slices.Equal(a.Text, b.Text) && slices.Equal(a.Ext, b.Ext)
}

func showElements(l []api.Element) string {
	s := ""
	for _, x := range l {
		s += weight.Show(x)
	}
	return s
}

func showSource(s api.Source) string {
	out := "version " + s.Version
	for _, x := range s.Entries {
		out += "\n" + table.Show(x.Codes) + " ; " + showElements(x.Elements)
	}
	return out
}

func short(s string) string { return s[:min(len(s), 200)] }

// cloned shares nothing with s.
func cloned(s api.Source) api.Source {
	out := api.Source{Version: s.Version, Ranges: slices.Clone(s.Ranges)}
	for _, x := range s.Entries {
		out.Entries = append(out.Entries, api.Entry{Codes: slices.Clone(x.Codes), Elements: slices.Clone(x.Elements)})
	}
	return out
}

// The chapter's examples.

func TestExamples(t *testing.T) {
	wantParse(t, "&a < b << c", reset("a"), rule(api.RulePrimary, "b", ""), rule(api.RuleSecondary, "c", ""))
	wantRefused(t, "&a <", 4, api.ErrRules)
	wantParse(t, `& 'x y' = \u0041/z`, reset("x y"), rule(api.RuleSame, "A", "z"))
	s := source(entry("a", elem(0x10, 0x20, 2)), entry("b", elem(0x11, 0x20, 2)))
	got, next, e := tailor.Behind(s, s.Entries[0].Elements, 1)
	wantErr(t, "Behind", e, api.OK)
	wantList(t, "Behind", next, []api.Element{elem(0x11, 0x20, 2)})
	wantList(t, "b", got.Entries[1].Elements, []api.Element{elem(0x12, 0x20, 2)})
	wantList(t, "a", got.Entries[0].Elements, []api.Element{elem(0x10, 0x20, 2)})
}

// strung is a string as long as n code points.
func strung(n int) string { return strings.Repeat("a", n) }
