package table

import (
	"strconv"
	"strings"

	"lectern/api"
	"lectern/weight"
)

// What texts of tables are made of.
const (
	newline     = "\n"
	comment     = "#"
	mark        = "@"
	versions    = "version"
	wholes      = "implicitweights"
	splits      = "unified"
	between     = ".." // the ends of a range
	divide      = ";"
	blank       = " "
	hexadecimal = 16
	leastWide   = 4 // digits of a code point
)

// Write: P8.6.
func Write(t api.Source) (string, api.Errno) {
	if _, e := Check(t); e != api.OK {
		return "", e
	}
	var out strings.Builder
	out.WriteString(mark + versions + blank + t.Version + newline)
	for _, x := range t.Ranges {
		out.WriteString(rangeLine(x) + newline)
	}
	for _, x := range t.Entries {
		out.WriteString(entryLine(x) + newline)
	}
	return out.String(), api.OK
}

// Line: P8.4.
func Line(e api.Entry) (string, api.Errno) {
	if err := checkEntry(e); err != api.OK {
		return "", err
	}
	return entryLine(e), api.OK
}

// Show: P8.3.
func Show(l []rune) string {
	var out strings.Builder
	for i, r := range l {
		if i > 0 {
			out.WriteString(blank)
		}
		out.WriteString(show(uint32(r)))
	}
	return out.String()
}

func rangeLine(x api.Implicit) string {
	word := splits
	if x.Whole {
		word = wholes
	}
	return mark + word + blank + show(uint32(x.From)) + between + show(uint32(x.To)) + divide + blank + show(uint32(x.Base))
}

func entryLine(x api.Entry) string {
	var out strings.Builder
	out.WriteString(Show(x.Codes) + blank + divide + blank)
	for _, e := range x.Elements {
		out.WriteString(weight.Show(e))
	}
	return out.String()
}

func show(n uint32) string {
	digits := strings.ToUpper(strconv.FormatUint(uint64(n), hexadecimal))
	return strings.Repeat("0", max(leastWide-len(digits), 0)) + digits
}
