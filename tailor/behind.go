package tailor

import (
	"slices"

	"lectern/api"
	"lectern/weight"
)

// The levels, as weight.Level tells them.
const (
	ignored = iota
	primary
	secondary
	tertiary
)

// A new element has these weights below the level at which it differs.
const (
	newSecondary = 0x20
	newTertiary  = 2
)

const (
	firstOfRules = 0xFB00 // from here on a primary is a rule's, and stays as it is
	mostPrimary  = firstOfRules - 1
)

// Behind: P10.3.
func Behind(s api.Source, e []api.Element, level int) (api.Source, []api.Element, api.Errno) {
	out := copied(s)
	var next []api.Element
	if err := caught(func() { next = behind(out.Entries, e, level) }); err != api.OK {
		return api.Source{}, nil, err
	}
	return out, next, api.OK
}

// behind makes room in the entries themselves, and tells the elements that are next behind e. What stands in e behind the element that
// counts, and is left out, needs no room: its weight of that level is 0.
func behind(entries []api.Entry, e []api.Element, level int) []api.Element {
	at := counting(e, level)
	must(at >= 0 && e[at].P < firstOfRules, api.ErrReset)
	raise := raising(e[at], level)
	for _, x := range entries {
		raise(x.Elements)
	}
	out := slices.Clone(e[:at])
	raise(out)
	return slices.Clip(append(out, following(e[at], level)))
}

// counting is the place of the element of e that counts at a level; -1, if there is none, or no such level.
func counting(e []api.Element, level int) int {
	if level < primary || level > tertiary {
		return -1
	}
	at := len(e) - 1
	for at >= 0 && (weight.Level(e[at]) == ignored || weight.Level(e[at]) > level) {
		at--
	}
	return at
}

// raising is what makes room behind x at a level: it raises those of a list that differ from x at that level first, and are above it.
func raising(x api.Element, level int) func([]api.Element) {
	one := func(y *api.Element) {
		switch {
		case level == primary && y.P > x.P && y.P < firstOfRules:
			rise(&y.P, mostPrimary)
		case level == secondary && y.P == x.P && y.S > x.S:
			rise(&y.S, api.MaxSecondary)
		case level == tertiary && y.P == x.P && y.S == x.S && y.T > x.T:
			rise(&y.T, api.MaxTertiary)
		}
	}
	return func(l []api.Element) {
		for i := range l {
			one(&l[i])
		}
	}
}

// following is the element that is next behind x at a level.
func following(x api.Element, level int) api.Element {
	switch level {
	case primary:
		rise(&x.P, mostPrimary)
		x.S, x.T = newSecondary, newTertiary
	case secondary:
		rise(&x.S, api.MaxSecondary)
		x.T = newTertiary
	case tertiary:
		rise(&x.T, api.MaxTertiary)
	}
	return x
}

// rise makes a weight one more, up to the greatest that may be.
func rise(w *int, most int) {
	must(*w < most, api.ErrRoom)
	*w++
}
