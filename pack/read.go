package pack

import (
	"math"

	"lectern/api"
	"lectern/codec"
	"lectern/crc"
)

// read takes apart what write makes, and throws ErrPack where it can't; it doesn't look whether such a table may be.
func read(b []byte) (data []byte, s api.Source) {
	payload, long, e := crc.New().Unframe(b)
	must(e == api.OK && long == len(b), api.ErrPack)
	r := &reader{codec.New(payload)}
	must(string(r.from.Take(len(mark))) == mark, api.ErrPack)
	data = r.from.Field()
	s.Version = string(r.from.Field())
	s.Ranges = rows(r, api.MaxRanges, r.implicit)
	s.Entries = rows(r, api.MaxEntries, r.entry)
	must(r.from.Done() == api.OK, api.ErrPack)
	return data, s
}

// reader reads what a table is made of. Each of its calls throws ErrPack where that isn't, and also where what was read ahead of it
// wasn't: an error of what it reads from stays.
type reader struct{ from *codec.Reader }

func (r *reader) number() int {
	n := r.from.Uint()
	must(r.from.Err() == api.OK && n <= math.MaxInt32, api.ErrPack)
	return int(n)
}

func (r *reader) flag() bool {
	n := r.number()
	must(n <= 1, api.ErrPack)
	return n == 1
}

func (r *reader) code() rune { return rune(r.number()) }

func (r *reader) implicit() api.Implicit {
	return api.Implicit{From: r.code(), To: r.code(), Base: r.number(), Whole: r.flag()}
}

func (r *reader) entry() api.Entry {
	return api.Entry{Codes: rows(r, api.MaxSeq, r.code), Elements: rows(r, api.MaxElements, r.element)}
}

func (r *reader) element() api.Element {
	return api.Element{P: r.number(), S: r.number(), T: r.number(), Var: r.flag()}
}

// rows reads how many there are, and then one by one. Of more than most all are read, but no more than one too many is kept: that is
// refused as well, and what an entry takes here is much more than its bytes.
func rows[T any](r *reader, most int, one func() T) []T {
	var out []T
	for range r.number() {
		x := one()
		if len(out) <= most {
			out = append(out, x)
		}
	}
	return out
}
