package norms

import (
	"cmp"
	"iter"
	"slices"

	"lectern/api"
	"lectern/utf"
)

// greatestClass is the greatest that a code point may have.
const greatestClass = 254

// data is classes and decompositions, as they are built.
type data struct {
	classes []api.Class
	decomps []api.Decomp
}

// check tells the first error of data that may not be: P5.1.
func (x data) check() api.Errno {
	switch {
	case len(x.classes) > api.MaxClasses || len(x.decomps) > api.MaxDecomps:
		return api.ErrLong
	case !x.classesMayBe():
		return api.ErrClass
	case !x.decompsMayBe():
		return api.ErrDecomp
	}
	return api.OK
}

func (x data) classesMayBe() bool {
	least := rune(0)
	for _, c := range x.classes {
		if !utf.Scalar(c.From) || !utf.Scalar(c.To) || c.From < least || c.From > c.To || c.Class < 1 || c.Class > greatestClass {
			return false
		}
		least = c.To + 1
	}
	return true
}

func (x data) decompsMayBe() bool {
	steps := x.steps()
	least := rune(0)
	for d := range x.each() {
		if d.Code < least || !codesMayBe(d) || !steps.mayBe(d) || !x.beginsWell(d, steps) {
			return false
		}
		least = d.Code + 1
	}
	return true
}

// codesMayBe looks at d's own code points alone.
func codesMayBe(d api.Decomp) bool {
	return utf.Scalar(d.Code) && !isSyllable(d.Code) && !isJamo(d.Code) &&
		utf.Scalar(d.A) && d.A != 0 && utf.Scalar(d.B) && !isSyllable(d.B)
}

// beginsWell tells whether what d comes to begins with a class, if d's code point has one. d needs no more than MaxDeep steps.
func (x data) beginsWell(d api.Decomp, steps stepMap) bool {
	return x.class(d.Code) == 0 || x.class(steps.wholly(d)[0]) != 0
}

// class is that of the range that holds r; 0, if none does.
func (x data) class(r rune) int {
	at, found := slices.BinarySearchFunc(x.classes, r, func(c api.Class, r rune) int {
		if c.From <= r && r <= c.To {
			return 0
		}
		return cmp.Compare(c.From, r)
	})
	if !found {
		return 0
	}
	return x.classes[at].Class
}

// each tells the decompositions in order.
func (x data) each() iter.Seq[api.Decomp] { return slices.Values(x.decomps) }

// stepMap has each code point's decomposition by one step.
type stepMap map[rune]api.Decomp

func (x data) steps() stepMap {
	s := make(stepMap, len(x.decomps))
	for d := range x.each() {
		s[d.Code] = d
	}
	return s
}

// mayBe tells whether d's B decomposes no further and its A in no more steps than there may be; so no code point comes to itself.
func (s stepMap) mayBe(d api.Decomp) bool {
	if _, more := s[d.B]; more && d.B != 0 {
		return false
	}
	for range api.MaxDeep {
		next, more := s[d.A]
		if !more {
			return true
		}
		d = next
	}
	return false
}

// wholly is what d comes to, till nothing decomposes: only its A may go on. It is asked for only where mayBe holds, so it ends.
func (s stepMap) wholly(d api.Decomp) []rune {
	var out []rune
	if next, more := s[d.A]; more {
		out = s.wholly(next)
	} else {
		out = byRule(d.A)
	}
	if d.B != 0 {
		out = append(out, d.B)
	}
	return out
}
