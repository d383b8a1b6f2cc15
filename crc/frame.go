package crc

import (
	"iter"

	"lectern/api"
	"lectern/codec"
)

// sumWide is how many bytes of a frame its sum takes.
const sumWide = 4

// Frame: P3.5.
func (t *Table) Frame(b []byte) ([]byte, api.Errno) {
	if !t.begin(b) {
		return nil, api.ErrCrc
	}
	if len(b) > api.MaxFrame {
		return nil, api.ErrLong
	}
	long := codec.Uint(uint64(len(b)))
	sum, _ := codec.Fixed(uint64(Mask(t.Sum(b))), sumWide) // 32 bits fit always
	out := make([]byte, 0, len(long)+len(sum)+len(b))
	out = append(out, long...)
	out = append(out, sum...)
	return append(out, b...), api.OK
}

// Unframe: P3.6.
func (t *Table) Unframe(b []byte) ([]byte, int, api.Errno) {
	if !t.begin(b) {
		return nil, 0, api.ErrCrc
	}
	payload, sum, end, e := split(b)
	if e != api.OK {
		return nil, 0, e
	}
	if t.Sum(payload) != sum {
		return nil, 0, api.ErrSum
	}
	return copied(payload), end, api.OK
}

// Each: P3.7. It goes over a copy: an answer shares nothing with an argument (P2).
func (t *Table) Each(b []byte) iter.Seq2[int, []byte] {
	if !t.begin(b) {
		return func(func(int, []byte) bool) {}
	}
	b = copied(b)
	return func(yield func(int, []byte) bool) {
		at := 0
		for {
			payload, long, e := t.Unframe(b[at:])
			if e != api.OK || !yield(at, payload) {
				return
			}
			at += long
		}
	}
}

// split tells the payload of the frame that b begins with (a piece of b), the sum that it should have, and where the frame ends.
func split(b []byte) (payload []byte, sum uint32, end int, e api.Errno) {
	long, at, e := codec.ReadUint(b)
	if e != api.OK || long > api.MaxFrame {
		return nil, 0, 0, api.ErrFrame
	}
	masked, wide, e := codec.ReadFixed(b[at:], sumWide)
	at += wide
	if e != api.OK || int(long) > len(b)-at {
		return nil, 0, 0, api.ErrFrame
	}
	end = at + int(long)
	return b[at:end], Unmask(uint32(masked)), end, api.OK
}

// copied has no room behind its end: what is answered has nothing there.
func copied(b []byte) []byte {
	out := make([]byte, len(b))
	copy(out, b)
	return out
}
