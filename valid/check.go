package valid

import (
	"math"

	"lectern/api"
	"lectern/norm"
	"lectern/norms"
	"lectern/trie"
	"lectern/weight"
)

// What bytes a version is made of.
const (
	leastOfVersion    = 33
	greatestOfVersion = 126
)

// The levels, as weight.Level tells them.
const (
	_ = iota
	primary
	secondary
	tertiary
)

// The weights of level 2 and 3 that each code point without an entry has: there always is one.
const (
	secondaryByRule = 0x20
	tertiaryByRule  = 2
)

// checking is a source that is looked at under some data. Each of its checks throws what is wrong, and stands on those ahead of it.
type checking struct {
	data   *norms.Norms
	source api.Source
	found  *trie.Trie // the entries, once list has taken them
}

// fault is why a source may not be, and which entry; it goes no further than caught.
type fault struct {
	number int
	err    api.Errno
}

// must throws e and the number of an entry unless it holds: only for what is caught.
func must(holds bool, number int, e api.Errno) {
	if !holds {
		panic(fault{number, e})
	}
}

// caught does what throws, and tells the entry and the error.
func caught(do func()) (number int, e api.Errno) {
	defer func() {
		switch thrown := recover().(type) {
		case nil:
		case fault:
			number, e = thrown.number, thrown.err
		default:
			panic(thrown)
		}
	}()
	do()
	return 0, api.OK
}

func (c *checking) version() {
	s := c.source.Version
	must(s != "" && len(s) <= api.MaxVersion, 0, api.ErrVersion)
	for i := range len(s) {
		must(s[i] >= leastOfVersion && s[i] <= greatestOfVersion, 0, api.ErrVersion)
	}
}

func (c *checking) ranges() {
	e := weight.Ranges(c.source.Ranges)
	must(e == api.OK, 0, e)
}

func (c *checking) list() {
	found, number, e := trie.New(c.source.Entries)
	must(e == api.OK, number, e)
	c.found = found
}

func (c *checking) codes() {
	for number, x := range c.source.Entries {
		must(norm.Is(c.data, x.Codes), number, api.ErrNormal)
		must(c.canBeReached(x.Codes), number, api.ErrPrefix)
	}
}

// canBeReached tells whether a longest match comes to these code points mark by mark.
func (c *checking) canBeReached(codes []rune) bool {
	last := len(codes) - 1
	if last <= 1 || c.data.Starter(codes[last]) {
		return true
	}
	_, is := c.found.Get(codes[:last])
	return is
}

// levels looks whether what weighs nothing on a level is above all that does, on the next one.
func (c *checking) levels() {
	mostSecondary, mostTertiary := secondaryByRule, tertiaryByRule
	c.each(func(_ int, x api.Element) {
		switch weight.Level(x) {
		case primary:
			mostSecondary = max(mostSecondary, x.S)
			mostTertiary = max(mostTertiary, x.T)
		case secondary:
			mostTertiary = max(mostTertiary, x.T)
		}
	})
	c.each(func(number int, x api.Element) {
		switch weight.Level(x) {
		case secondary:
			must(x.S > mostSecondary, number, api.ErrOrder)
		case tertiary:
			must(x.T > mostTertiary, number, api.ErrOrder)
		}
	})
}

// variables looks whether what is variable is below all that is not, and with none of that in one entry.
func (c *checking) variables() {
	least := math.MaxInt
	c.each(func(_ int, x api.Element) {
		if isFixed(x) {
			least = min(least, x.P)
		}
	})
	for number, x := range c.source.Entries {
		variable, fixed := false, false
		for _, e := range x.Elements {
			must(!e.Var || e.P < least, number, api.ErrVar)
			variable = variable || e.Var
			fixed = fixed || isFixed(e)
		}
		must(!variable || !fixed, number, api.ErrVar)
	}
}

// isFixed tells whether x is of Level 1 and not variable.
func isFixed(x api.Element) bool { return weight.Level(x) == primary && !x.Var }

// each hands all elements to see, with the numbers of their entries.
func (c *checking) each(see func(number int, x api.Element)) {
	for number, x := range c.source.Entries {
		for _, e := range x.Elements {
			see(number, e)
		}
	}
}
