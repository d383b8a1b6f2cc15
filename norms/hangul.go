package norms

import "slices"

// The Hangul syllables lie one behind the other: by their leading jamo, then their vowel, then their trailing jamo or none.
const (
	firstSyllable = 0xAC00
	lastSyllable  = 0xD7A3
	firstLead     = 0x1100
	lastLead      = 0x1112
	firstVowel    = 0x1161
	lastVowel     = 0x1175
	noTrail       = 0x11A7 // one ahead of the first trailing jamo
	lastTrail     = 0x11C2
	perVowel      = 28
	perLead       = (lastVowel - firstVowel + 1) * perVowel
)

// Hangul: P5.4.
func Hangul(r rune) []rune {
	if !isSyllable(r) {
		return nil
	}
	s := r - firstSyllable
	out := []rune{firstLead + s/perLead, firstVowel + s%perLead/perVowel}
	if trail := s % perVowel; trail != 0 {
		out = append(out, noTrail+trail)
	}
	return slices.Clip(out)
}

// byRule is what a code point without data comes to: a Hangul syllable its jamo, any other itself.
func byRule(r rune) []rune {
	if isSyllable(r) {
		return Hangul(r)
	}
	return []rune{r}
}

func isSyllable(r rune) bool { return r >= firstSyllable && r <= lastSyllable }

// isJamo tells whether some Hangul syllable comes to r.
func isJamo(r rune) bool {
	return r >= firstLead && r <= lastLead || r >= firstVowel && r <= lastVowel || r > noTrail && r <= lastTrail
}
