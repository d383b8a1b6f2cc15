package codec

import (
	"iter"

	"lectern/api"
)

// Reader reads bytes on and on, till something is wrong.
type Reader struct {
	made bool // tells what New made from what nobody made
	b    []byte
	at   int
	err  api.Errno
}

// New: P2.6.
func New(b []byte) *Reader { return over(copied(b)) }

// over is a reader of b itself: only for bytes that nobody changes while it reads.
func over(b []byte) *Reader { return &Reader{made: true, b: b} }

// Uint: P2.6.
func (r *Reader) Uint() uint64 { return on(r, r.nextUint) }

// Int: P2.6.
func (r *Reader) Int() int { return on(r, r.nextInt) }

// Fixed: P2.6.
func (r *Reader) Fixed(wide int) uint64 {
	return on(r, func() uint64 { return r.nextFixed(wide) })
}

// Field: P2.6.
func (r *Reader) Field() []byte { return on(r, r.nextField) }

// Take: P2.6.
func (r *Reader) Take(n int) []byte {
	return on(r, func() []byte { return copied(r.next(n)) })
}

// At: P2.6.
func (r *Reader) At() int {
	if !r.isMade() {
		return 0
	}
	return r.at
}

// Err: P2.6.
func (r *Reader) Err() api.Errno {
	if !r.isMade() {
		return api.ErrReader
	}
	return r.err
}

// Done: P2.6.
func (r *Reader) Done() api.Errno {
	if e := r.Err(); e != api.OK {
		return e
	}
	if r.at < len(r.b) {
		return api.ErrRest
	}
	return api.OK
}

// Each: P2.6. Fields are read as they are told: what is left stands behind the last one that was told.
func (r *Reader) Each() iter.Seq2[int, []byte] {
	return func(yield func(int, []byte) bool) {
		for i := 0; r.Done() == api.ErrRest; i++ {
			f := r.Field()
			if r.Err() != api.OK || !yield(i, f) {
				return
			}
		}
	}
}

// isMade tells whether New made r.
func (r *Reader) isMade() bool { return r != nil && r.made }

// fault is what is thrown where bytes are wrong; it goes no further than on.
type fault api.Errno

// on reads on by one of the calls below, which throw. A fault stays as r's error, and r stands where the call began.
func on[T any](r *Reader, read func() T) (value T) {
	if r.Err() != api.OK {
		return value
	}
	began := r.at
	defer func() {
		switch thrown := recover().(type) {
		case nil:
		case fault:
			r.at, r.err = began, api.Errno(thrown)
		default:
			panic(thrown)
		}
	}()
	return read()
}

// next passes over n bytes and tells them, as a piece of what is read.
func (r *Reader) next(n int) []byte {
	if n < 0 {
		panic(fault(api.ErrRange))
	}
	if n > len(r.b)-r.at {
		panic(fault(api.ErrShort))
	}
	r.at += n
	return r.b[r.at-n : r.at]
}

func (r *Reader) nextUint() uint64 {
	var n uint64
	for i := 0; ; i++ {
		c := r.next(1)[0]
		// Nine bytes hold 63 bits: the tenth can but be 1, and none follows it.
		if i == 9 && c > 1 || i > 0 && c == 0 {
			panic(fault(api.ErrVarint))
		}
		n |= uint64(c&0x7f) << (7 * i)
		if c < 0x80 {
			return n
		}
	}
}

func (r *Reader) nextInt() int {
	n := r.nextUint()
	if n%2 == 1 {
		return -1 - int(n/2)
	}
	return int(n / 2)
}

func (r *Reader) nextFixed(wide int) uint64 {
	if !isWide(wide) {
		panic(fault(api.ErrRange))
	}
	var n uint64
	for i, c := range r.next(wide) {
		n |= uint64(c) << (8 * i)
	}
	return n
}

// nextLen reads a length or a count, which may not be above most.
func (r *Reader) nextLen(most uint64) int {
	n := r.nextUint()
	if n > most {
		panic(fault(api.ErrLong))
	}
	return int(n)
}

func (r *Reader) nextField() []byte {
	return copied(r.next(r.nextLen(api.MaxField)))
}

func (r *Reader) nextFields() [][]byte {
	n := r.nextLen(api.MaxFields)
	// A field has a byte at least: so a count that is no more than a claim takes no room.
	out := make([][]byte, 0, min(n, len(r.b)-r.at))
	for range n {
		out = append(out, r.nextField())
	}
	return out
}

// copied has no room behind its end: what is answered has nothing there.
func copied(b []byte) []byte {
	out := make([]byte, len(b))
	copy(out, b)
	return out
}
