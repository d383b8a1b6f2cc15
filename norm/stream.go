package norm

import (
	"slices"

	"lectern/api"
	"lectern/norms"
	"lectern/utf"
)

// Stream normalises code points as they come.
type Stream struct {
	made bool // tells what New made from what nobody made
	data *norms.Norms
	held []rune // one piece, not yet in order
}

// New: P6.5.
func New(n *norms.Norms) *Stream { return &Stream{made: true, data: n} }

// Push: P6.5.
func (s *Stream) Push(r rune) ([]rune, api.Errno) {
	if !s.isMade() {
		return nil, api.ErrStream
	}
	if !utf.Scalar(r) {
		return nil, api.ErrRune
	}
	var out []rune
	for _, x := range s.data.Decomp(r) {
		if s.data.Starter(x) {
			out = append(out, s.End()...)
		}
		s.held = append(s.held, x)
	}
	return slices.Clip(out), api.OK
}

// End: P6.5.
func (s *Stream) End() []rune {
	if !s.isMade() {
		return nil
	}
	out := Order(s.data, s.held)
	s.held = nil
	return out
}

// Held: P6.5.
func (s *Stream) Held() int {
	if !s.isMade() {
		return 0
	}
	return len(s.held)
}

// isMade tells whether New made s.
func (s *Stream) isMade() bool { return s != nil && s.made }
