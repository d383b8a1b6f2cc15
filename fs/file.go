package fs

import "slices"

// file has data that are safe, and what happened to them since.
type file struct {
	safe    []byte
	data    []byte // safe with all changes done; an array of its own
	changes []change
}

// change is what a file has gone through since it was last safe.
type change interface {
	// kept does to data what survives by the number k, and tells whether that is the whole change.
	kept(data []byte, k int) ([]byte, bool)
}

// added are appended bytes: as a text nobody can change them, so that a clone may hold them too.
type added string

func (a added) kept(data []byte, k int) ([]byte, bool) {
	n := survivors(k, len(a))
	return append(data, a[:n]...), n == len(a)
}

// cut is how long the data are behind a cut.
type cut int

func (c cut) kept(data []byte, k int) ([]byte, bool) {
	if k >= 0 && k%2 == 0 {
		return data, false
	}
	return data[:c], true
}

// change does c to the data.
func (x *file) change(c change) {
	x.changes = append(x.changes, c)
	x.data, _ = c.kept(x.data, all)
}

// settle makes safe what survives of the changes by the numbers that next tells: nothing behind the first that does not survive whole.
func (x *file) settle(next func() int) {
	whole := true
	for _, c := range x.changes {
		k := next()
		if whole {
			x.safe, whole = c.kept(x.safe, k)
		}
	}
	x.changes = nil
}

// clone is another file with the same data and changes.
func (x *file) clone() *file {
	return &file{safe: copied(x.safe), data: copied(x.data), changes: slices.Clone(x.changes)}
}

// copied has no room behind its end, which slices.Clone may leave: what is answered has nothing there.
func copied(b []byte) []byte {
	out := make([]byte, len(b))
	copy(out, b)
	return out
}
