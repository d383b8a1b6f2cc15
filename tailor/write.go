package tailor

import (
	"slices"
	"strings"

	"lectern/api"
	"lectern/utf"
)

const newlineEscape = shortEscape + "000A"

// Write: P10.1. Nothing shorter is read as these rules, so that what can be written at all is written.
func Write(l []api.Rule) (string, api.Errno) {
	if e := check(l); e != api.OK {
		return "", e
	}
	var out strings.Builder
	known := signs()
	for _, x := range l {
		out.WriteString(known[x.Kind] + written(x.Text))
		if len(x.Ext) > 0 {
			out.WriteString(extSign + written(x.Ext))
		}
		if out.Len() > api.MaxRuleText {
			return "", api.ErrLong
		}
	}
	return out.String(), api.OK
}

// check tells whether rules are such that Parse makes them, and then, whether there are too many.
func check(l []api.Rule) api.Errno {
	if len(l) > 0 && l[0].Kind != api.RuleReset || slices.ContainsFunc(l, isWrong) {
		return api.ErrRules
	}
	if len(l) > api.MaxRules {
		return api.ErrLong
	}
	return api.OK
}

// isWrong looks at a rule alone.
func isWrong(x api.Rule) bool {
	return x.Kind < api.RuleReset || x.Kind > api.RuleSame || len(x.Text) == 0 || x.Kind == api.RuleReset && len(x.Ext) > 0 ||
		slices.ContainsFunc(x.Text, isNone) || slices.ContainsFunc(x.Ext, isNone)
}

func isNone(r rune) bool { return !utf.Scalar(r) }

// written is a string: a quote reaches as far as there may be one, and what may not stand in it stands alone.
func written(l []rune) string {
	rest, _, _ := utf.Encode(l) // it was checked
	var out strings.Builder
	for rest != "" {
		run := rest
		if end := strings.IndexAny(rest, quote+newline); end >= 0 {
			run = rest[:max(end, 1)]
		}
		out.WriteString(part(run))
		rest = rest[len(run):]
	}
	return out.String()
}

func part(s string) string {
	switch {
	case s == quote:
		return quote + quote
	case s == newline:
		return newlineEscape
	case plainLong(s) < len(s):
		return quote + s + quote
	}
	return s
}
