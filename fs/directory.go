package fs

import (
	"iter"
	"maps"
	"slices"

	"lectern/api"
)

// directory says which names have which files.
type directory map[string]*file

// inOrder goes over the files by their names' bytes.
func (d directory) inOrder() iter.Seq2[string, *file] {
	return func(yield func(string, *file) bool) {
		for _, name := range slices.Sorted(maps.Keys(d)) {
			if !yield(name, d[name]) {
				return
			}
		}
	}
}

// tell copies the files out, each with what data says of it.
func (d directory) tell(data func(*file) []byte) []api.File {
	out := make([]api.File, 0, len(d))
	for name, x := range d.inOrder() {
		out = append(out, api.File{Name: name, Data: copied(data(x))})
	}
	return out
}

// move is a file that was made (to), renamed (from, to) or removed (from). Files are told by their names, not held:
// so a directory and its moves can be copied by doing the moves again.
type move struct {
	from, to string
	made     *file
}

// done does the move to d.
func (m move) done(d directory) {
	x := m.made
	if x == nil {
		x = d[m.from]
		delete(d, m.from)
	}
	if m.to != "" {
		d[m.to] = x
	}
}

// move does m to the directory; a crash may lose it.
func (f *FS) move(m move) {
	f.moves = append(f.moves, m)
	m.done(f.dir)
}

// settle makes the first n moves safe; none is left.
func (f *FS) settle(n int) {
	for _, m := range f.moves[:n] {
		m.done(f.safe)
	}
	f.moves = nil
}

// mayBe tells whether a file may have that name.
func mayBe(name string) bool {
	if name == "" || len(name) > api.MaxName {
		return false
	}
	for i := range len(name) {
		if name[i] < 33 || name[i] > 126 || name[i] == '/' {
			return false
		}
	}
	return true
}
