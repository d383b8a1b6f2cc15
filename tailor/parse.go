package tailor

import (
	"slices"
	"strconv"
	"strings"

	"lectern/api"
	"lectern/utf"
)

// What texts of rules are made of, beside the signs of rules.
const (
	extSign = "/"
	comment = "#"
	newline = "\n"
	blanks  = " \t" + newline
	quote   = "'"
	escape  = `\`
	special = blanks + "&<=" + extSign + comment + quote + escape // what stands in a string only quoted or escaped
)

// How escapes are written.
const (
	shortEscape = escape + "u"
	longEscape  = escape + "U"
	shortDigits = 4
	longDigits  = 6
	hexadecimal = 16
	numbers     = 32 // bits that are more than enough for as many digits
)

// reader reads a text, which utf.Check takes, into rules. Whatever throws leaves at where the fault is.
type reader struct {
	text  string
	at    int // the place of what is read next
	rules []api.Rule
}

// Parse: P10.1.
func Parse(s string) ([]api.Rule, int, api.Errno) {
	if len(s) > api.MaxRuleText {
		return nil, 0, api.ErrLong
	}
	if at, e := utf.Check(s); e != api.OK {
		return nil, at, e
	}
	r := reader{text: s}
	if e := caught(r.read); e != api.OK {
		return nil, r.at, e
	}
	return slices.Clip(r.rules), 0, api.OK
}

// signs are those of rules, by their kinds.
func signs() []string {
	return []string{api.RuleReset: "&", api.RulePrimary: "<", api.RuleSecondary: "<<", api.RuleTertiary: "<<<", api.RuleSame: "="}
}

// kinds are those of rules, by their signs.
func kinds() map[string]int {
	out := map[string]int{}
	for kind, sign := range signs() {
		out[sign] = kind
	}
	return out
}

// token passes over what is nothing, and reads what stands there.
func token[T any](r *reader, read func() T) T {
	r.pass()
	return read()
}

// read reads all of a text.
func (r *reader) read() {
	known := kinds()
	for sign := token(r, r.sign); r.at < len(r.text); sign = token(r, r.sign) {
		kind, is := known[sign]
		must(is && (kind == api.RuleReset || len(r.rules) > 0), api.ErrRules)
		must(len(r.rules) < api.MaxRules, api.ErrLong)
		r.at += len(sign)
		r.rules = append(r.rules, r.rule(kind))
	}
}

// rule reads what stands behind a rule's sign.
func (r *reader) rule(kind int) api.Rule {
	x := api.Rule{Kind: kind, Text: token(r, r.scalars)}
	if kind != api.RuleReset && token(r, r.sign) == extSign {
		r.at += len(extSign)
		x.Ext = token(r, r.scalars)
	}
	return x
}

// pass passes over blanks and comments.
func (r *reader) pass() {
	for {
		rest := strings.TrimLeft(r.rest(), blanks)
		r.at = len(r.text) - len(rest)
		if !strings.HasPrefix(rest, comment) {
			return
		}
		line, _, _ := strings.Cut(rest, newline)
		r.at += len(line)
	}
}

func (r *reader) rest() string { return r.text[r.at:] }

// sign is the longest sign that stands here, if one does. It isn't passed over: perhaps it may not stand here.
func (r *reader) sign() string {
	longest := ""
	for _, s := range append(signs(), extSign) {
		if strings.HasPrefix(r.rest(), s) && len(s) > len(longest) {
			longest = s
		}
	}
	return longest
}

// scalars reads a string.
func (r *reader) scalars() []rune {
	var out []rune
	for read := r.part(); read != nil; read = r.part() {
		out = append(out, read()...)
	}
	must(len(out) > 0, api.ErrRules)
	return slices.Clip(out)
}

// part is what reads the part of a string that begins here, if one does.
func (r *reader) part() func() []rune {
	rest := r.rest()
	switch {
	case strings.HasPrefix(rest, quote):
		return r.quoted
	case strings.HasPrefix(rest, escape):
		return r.escaped
	case plainLong(rest) > 0:
		return r.plain
	}
	return nil
}

func (r *reader) plain() []rune { return r.take(0, plainLong(r.rest()), 0) }

// quoted reads a quote; an empty one stands for its mark.
func (r *reader) quoted() []rune {
	inside := r.rest()[len(quote):]
	long := strings.IndexAny(inside, quote+newline)
	must(long >= 0 && strings.HasPrefix(inside[long:], quote), api.ErrRules)
	if long == 0 {
		return r.take(0, len(quote), len(quote))
	}
	return r.take(len(quote), long, len(quote))
}

func (r *reader) escaped() []rune {
	digits, wide := r.rest(), shortDigits
	if strings.HasPrefix(digits, longEscape) {
		wide = longDigits
	} else {
		must(strings.HasPrefix(digits, shortEscape), api.ErrRules)
	}
	digits = digits[len(shortEscape):]
	must(len(digits) >= wide, api.ErrRules)
	n, e := strconv.ParseUint(digits[:wide], hexadecimal, numbers)
	must(e == nil && utf.Scalar(rune(n)), api.ErrRules)
	r.at += len(shortEscape) + wide
	return []rune{rune(n)}
}

// take reads so many bytes behind some that it passes over, and passes over some behind them.
func (r *reader) take(ahead, long, behind int) []rune {
	l, _, _ := utf.Decode(r.rest()[ahead : ahead+long]) // the text was checked, and no scalar is cut
	r.at += ahead + long + behind
	return l
}

// plainLong is how many bytes that stand for themselves s begins with.
func plainLong(s string) int {
	if end := strings.IndexAny(s, special); end >= 0 {
		return end
	}
	return len(s)
}
