package weight

import "lectern/api"

const (
	digits     = "0123456789ABCDEF"
	digitBits  = 4
	wide       = 4 // digits of a weight
	greatest   = 1<<(wide*digitBits) - 1
	plainMark  = "."
	varMark    = "*"
	formLength = len("[.0000.0000.0000]")
)

// Where in the form the mark and the weights stand.
const (
	markAt      = 1
	primaryAt   = markAt + 1
	secondaryAt = primaryAt + wide + 1
	tertiaryAt  = secondaryAt + wide + 1
)

// Show: P7.6.
func Show(e api.Element) string {
	if !hasDigits(e.P) || !hasDigits(e.S) || !hasDigits(e.T) {
		return ""
	}
	mark := plainMark
	if e.Var {
		mark = varMark
	}
	return "[" + mark + show(e.P) + "." + show(e.S) + "." + show(e.T) + "]"
}

// Read: P7.6. Where something stands that may not, Show of what was read isn't what stands there.
func Read(s string) (api.Element, int, api.Errno) {
	if len(s) < formLength {
		return api.Element{}, 0, api.ErrNone
	}
	e := api.Element{
		P:   read(s[primaryAt:]),
		S:   read(s[secondaryAt:]),
		T:   read(s[tertiaryAt:]),
		Var: s[markAt:primaryAt] == varMark,
	}
	if Show(e) != s[:formLength] {
		return api.Element{}, 0, api.ErrNone
	}
	if err := Check(e); err != api.OK {
		return api.Element{}, 0, err
	}
	return e, formLength, api.OK
}

// hasDigits tells whether a weight has no more digits than the form has room for.
func hasDigits(weight int) bool { return weight >= 0 && weight <= greatest }

func show(weight int) string {
	var out [wide]byte
	for i := range out {
		out[i] = digits[weight>>((wide-1-i)*digitBits)&(1<<digitBits-1)]
	}
	return string(out[:])
}

// read is the weight that s begins with, if it begins with one; s has that many bytes.
func read(s string) int {
	weight := 0
	for i := range wide {
		weight = weight<<digitBits | digit(s[i])
	}
	return weight
}

// digit is what c stands for; 0 of what is no digit, as of the digit 0.
func digit(c byte) int {
	for value, d := range digits {
		if d == rune(c) {
			return value
		}
	}
	return 0
}
