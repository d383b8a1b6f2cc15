package table

import (
	"slices"
	"strconv"
	"strings"

	"lectern/api"
	"lectern/weight"
)

// How numbers stand in lines.
const (
	blanks   = " \t"
	digits   = "0123456789ABCDEF"
	mostWide = 6 // digits of a code point
	baseWide = 4
	numbers  = 32 // bits that are more than enough for as many digits
)

// fault is why something is no line, thrown where a line has to be; it goes no further than caught.
type fault api.Errno

// ReadLine: P8.4.
func ReadLine(s string) (api.Entry, api.Errno) {
	if strings.ContainsAny(s, comment+newline) {
		return api.Entry{}, api.ErrLine
	}
	var out api.Entry
	e := caught(func() { out = entryOf(s) })
	return out, e
}

// Codes: P8.3.
func Codes(s string) ([]rune, api.Errno) {
	var out []rune
	e := caught(func() { out = codesOf(s) })
	return out, e
}

// caught does what throws, and tells the error.
func caught(do func()) (e api.Errno) {
	defer func() {
		switch thrown := recover().(type) {
		case nil:
		case fault:
			e = api.Errno(thrown)
		default:
			panic(thrown)
		}
	}()
	do()
	return api.OK
}

// must throws e unless it holds: only for what is caught, as all that is below.
func must(holds bool, e api.Errno) {
	if !holds {
		panic(fault(e))
	}
}

// entryOf reads the line of an entry. What is wrong ahead of the divide is told first, whatever stands behind it.
func entryOf(s string) api.Entry {
	codes, elements, divided := strings.Cut(s, divide)
	must(divided, api.ErrLine)
	return api.Entry{Codes: codesOf(codes), Elements: elementsOf(elements)}
}

func codesOf(s string) []rune {
	var out []rune
	for word := range strings.FieldsFuncSeq(s, isBlank) {
		out = append(out, codeOf(word))
	}
	must(len(out) > 0, api.ErrLine)
	must(codesMayBe(out), api.ErrSeq)
	return slices.Clip(out)
}

func elementsOf(s string) []api.Element {
	var out []api.Element
	for s = trimLeft(s); s != ""; {
		e, long, err := weight.Read(s)
		must(err != api.ErrNone, api.ErrLine)
		must(err == api.OK, err)
		must(!isWrong(e), api.ErrWeight)
		out = append(out, e)
		s = trimLeft(s[long:])
	}
	must(len(out) <= api.MaxElements, api.ErrLong)
	return slices.Clip(out)
}

// codeOf is a number that is written as code points are; it need be none.
func codeOf(s string) rune { return rune(numberOf(s, leastWide, mostWide)) }

func baseOf(s string) int { return numberOf(s, baseWide, baseWide) }

func numberOf(s string, least, most int) int {
	must(len(s) >= least && len(s) <= most && strings.Trim(s, digits) == "", api.ErrLine)
	n, _ := strconv.ParseInt(s, hexadecimal, numbers)
	return int(n)
}

func isBlank(r rune) bool { return strings.ContainsRune(blanks, r) }

func trim(s string) string     { return strings.Trim(s, blanks) }
func trimLeft(s string) string { return strings.TrimLeft(s, blanks) }
