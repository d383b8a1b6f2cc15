package norms

import (
	"lectern/api"
	"lectern/codec"
	"lectern/crc"
)

// mark is what the bytes of all data begin with.
const mark = "NRM1"

// greatestNumber is the greatest that may stand in bytes.
const greatestNumber = 1 << 31

// write makes the frame of data that may be.
func (x data) write() ([]byte, api.Errno) {
	out := addNumbers([]byte(mark), len(x.classes))
	for _, c := range x.classes {
		out = addNumbers(out, int(c.From), int(c.To), c.Class)
	}
	out = addNumbers(out, len(x.decomps))
	for d := range x.each() {
		out = addNumbers(out, int(d.Code), int(d.A), int(d.B))
	}
	return crc.New().Frame(out)
}

// addNumbers lays numbers behind out, none of which is below 0.
func addNumbers(out []byte, l ...int) []byte {
	for _, n := range l {
		out = append(out, codec.Uint(uint64(n))...)
	}
	return out
}

// read takes apart what write makes; it doesn't look whether such data may be.
func read(b []byte) (data, api.Errno) {
	payload, long, e := crc.New().Unframe(b)
	if e != api.OK || long < len(b) {
		return data{}, api.ErrNorms
	}
	r := &reader{from: codec.New(payload)}
	if string(r.from.Take(len(mark))) != mark {
		return data{}, api.ErrNorms
	}
	x := data{classes: rows(r, r.class), decomps: rows(r, r.decomp)}
	if r.tooGreat || r.from.Done() != api.OK {
		return data{}, api.ErrNorms
	}
	return x, api.OK
}

// reader reads numbers till one is none or too great.
type reader struct {
	from     *codec.Reader
	tooGreat bool
}

func (r *reader) goesOn() bool { return !r.tooGreat && r.from.Err() == api.OK }

func (r *reader) number() uint64 {
	n := r.from.Uint()
	if n > greatestNumber {
		r.tooGreat = true
		return 0
	}
	return n
}

// code reads a code point. The greatest number is no rune: it wraps to one below 0, which is no code point, as it is none itself.
func (r *reader) code() rune { return rune(r.number()) }

func (r *reader) class() api.Class {
	return api.Class{From: r.code(), To: r.code(), Class: int(r.number())}
}

func (r *reader) decomp() api.Decomp {
	return api.Decomp{Code: r.code(), A: r.code(), B: r.code()}
}

// rows reads how many there are, and then one by one. What the count claims takes no room ahead of being there.
func rows[T any](r *reader, one func() T) []T {
	var out []T
	for range r.number() {
		x := one()
		if !r.goesOn() {
			return nil
		}
		out = append(out, x)
	}
	return out
}
