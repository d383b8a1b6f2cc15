// Package fs is layer 1, a stand-in file system with crashes: see shared/doc/01-fs.md.
package fs

import (
	"iter"
	"sync/atomic"

	"lectern/api"
)

// FS is a file system in memory: its files, what of them is safe, and the plan by which it fails and dies.
type FS struct {
	made bool // tells what New made from what nobody made
	dead bool
	plan api.Plan
	ops  atomic.Int64
	// dir is always safe with all moves done to it; behind a death there are no moves.
	dir   directory
	safe  directory
	moves []move
}

// New: P1.1.
func New(p api.Plan) *FS {
	return &FS{made: true, plan: ownPlan(p), dir: directory{}, safe: directory{}}
}

// isMade tells whether New made f.
func (f *FS) isMade() bool { return f != nil && f.made }

// Create: P1.3.
func (f *FS) Create(name string) api.Errno {
	if e := f.begin(); e != api.OK {
		return e
	}
	switch {
	case !mayBe(name):
		return api.ErrName
	case f.dir[name] != nil:
		return api.ErrFile
	case len(f.dir) >= api.MaxFiles:
		return api.ErrLong
	case f.isFull():
		return api.ErrFull
	}
	f.move(move{to: name, made: &file{}})
	return api.OK
}

// Append: P1.3.
func (f *FS) Append(name string, b []byte) api.Errno {
	if e := f.begin(); e != api.OK {
		return e
	}
	x := f.dir[name]
	switch {
	case x == nil:
		return api.ErrNoFile
	case len(b) > api.MaxFile-len(x.data):
		return api.ErrLong
	case f.isFull() || f.lacksRoom(len(b)):
		return api.ErrFull
	case len(b) > 0:
		x.change(added(b))
	}
	return api.OK
}

// Cut: P1.3.
func (f *FS) Cut(name string, long int) api.Errno {
	if e := f.begin(); e != api.OK {
		return e
	}
	x := f.dir[name]
	switch {
	case x == nil:
		return api.ErrNoFile
	case long < 0 || long > len(x.data):
		return api.ErrRange
	case long < len(x.data):
		x.change(cut(long))
	}
	return api.OK
}

// Sync: P1.3.
func (f *FS) Sync(name string) api.Errno {
	if e := f.begin(); e != api.OK {
		return e
	}
	x := f.dir[name]
	if x == nil {
		return api.ErrNoFile
	}
	x.settle(func() int { return all })
	return api.OK
}

// Rename: P1.3.
func (f *FS) Rename(from, to string) api.Errno {
	if e := f.begin(); e != api.OK {
		return e
	}
	switch {
	case f.dir[from] == nil:
		return api.ErrNoFile
	case !mayBe(to):
		return api.ErrName
	case from != to:
		f.move(move{from: from, to: to})
	}
	return api.OK
}

// Remove: P1.3.
func (f *FS) Remove(name string) api.Errno {
	if e := f.begin(); e != api.OK {
		return e
	}
	if f.dir[name] == nil {
		return api.ErrNoFile
	}
	f.move(move{from: name})
	return api.OK
}

// SyncDir: P1.3.
func (f *FS) SyncDir() api.Errno {
	if e := f.begin(); e != api.OK {
		return e
	}
	if f.isFull() {
		return api.ErrFull
	}
	f.settle(len(f.moves))
	return api.OK
}

// Read: P1.4.
func (f *FS) Read(name string, at, n int) ([]byte, api.Errno) {
	long, e := f.Size(name)
	if e != api.OK {
		return nil, e
	}
	// at and n are not added: their sum may be no int.
	if at < 0 || n < 0 || n > long-at {
		return nil, api.ErrRange
	}
	return copied(f.dir[name].data[at : at+n]), api.OK
}

// Size: P1.4.
func (f *FS) Size(name string) (int, api.Errno) {
	if f.Dead() {
		return 0, api.ErrDead
	}
	x := f.dir[name]
	if x == nil {
		return 0, api.ErrNoFile
	}
	return len(x.data), api.OK
}

// Files: P1.4.
func (f *FS) Files() []api.File {
	if f.Dead() {
		return nil
	}
	return f.dir.tell(func(x *file) []byte { return x.data })
}

// Safe: P1.4.
func (f *FS) Safe() []api.File {
	if !f.isMade() {
		return nil
	}
	return f.safe.tell(func(x *file) []byte { return x.safe })
}

// Each: P1.4. What it tells is as it was when Each was called: an answer shares nothing with the object (P2).
func (f *FS) Each() iter.Seq2[string, int] {
	var names []string
	var sizes []int
	if !f.Dead() {
		for name, x := range f.dir.inOrder() {
			names = append(names, name)
			sizes = append(sizes, len(x.data))
		}
	}
	return func(yield func(string, int) bool) {
		for i, name := range names {
			if !yield(name, sizes[i]) {
				return
			}
		}
	}
}

// Ops: P1.5.
func (f *FS) Ops() int {
	if !f.isMade() {
		return 0
	}
	return int(f.ops.Load())
}

// Dead: P1.5.
func (f *FS) Dead() bool { return !f.isMade() || f.dead }

// Used: P1.5.
func (f *FS) Used() int {
	if f.Dead() {
		return 0
	}
	used := 0
	for _, x := range f.dir {
		used += len(x.data)
	}
	return used
}

// Clone: P1.5. Every file has its name in the safe directory or was made by one of the moves: these are copied, and the moves done again.
func (f *FS) Clone() *FS {
	if !f.isMade() {
		return nil
	}
	g := New(f.plan)
	g.dead = f.dead
	g.ops.Store(f.ops.Load())
	for name, x := range f.safe {
		twin := x.clone()
		g.safe[name] = twin
		g.dir[name] = twin
	}
	for _, m := range f.moves {
		if m.made != nil {
			m.made = m.made.clone()
		}
		g.move(m)
	}
	return g
}

// Start: P1.6.
func (f *FS) Start(p api.Plan) api.Errno {
	if !f.isMade() {
		return api.ErrDead
	}
	if !f.dead {
		f.die()
	}
	f.dead = false
	f.plan = ownPlan(p)
	f.ops.Store(0)
	return api.OK
}
