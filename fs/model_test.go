package fs_test

import (
	"maps"
	"math/rand"
	"slices"
	"sort"
	"strconv"
	"strings"
	"testing"

	"lectern/api"
	"lectern/fs"
)

// The model tells a file as all that ever happened to it, and the directory as all that it ever was since SyncDir:
// nothing is kept twice, all is reckoned when it is asked for.

type event struct {
	text string // what was appended, if cut is -1
	cut  int
}

type history struct {
	events []event
	safe   int // how many of them are safe
}

func (h *history) data(n int) string {
	s := ""
	for _, e := range h.events[:n] {
		if e.cut < 0 {
			s += e.text
		} else {
			s = s[:e.cut]
		}
	}
	return s
}

func (h *history) now() string { return h.data(len(h.events)) }

type model struct {
	plan api.Plan
	ops  int
	dead bool
	dirs []map[string]*history // the safe one, and one more for each move
}

func newModel(p api.Plan) *model {
	return &model{plan: p, dirs: []map[string]*history{{}}}
}

func (m *model) dir() map[string]*history { return m.dirs[len(m.dirs)-1] }

func (m *model) next() map[string]*history {
	d := maps.Clone(m.dir())
	m.dirs = append(m.dirs, d)
	return d
}

func (m *model) take(at int) int {
	if len(m.plan.Keep) == 0 {
		return 0
	}
	return m.plan.Keep[at%len(m.plan.Keep)]
}

func (m *model) die() {
	k, at := m.take(0), 1
	d := m.dir()
	if k >= 0 {
		d = m.dirs[k%len(m.dirs)]
	}
	names := slices.Collect(maps.Keys(d))
	sort.Strings(names)
	for _, name := range names {
		h := d[name]
		s, torn := h.data(h.safe), false
		for _, e := range h.events[h.safe:] {
			k := m.take(at)
			at++
			switch {
			case torn:
			case e.cut >= 0 && (k < 0 || k%2 == 1):
				s = s[:e.cut]
			case e.cut >= 0:
				torn = true
			case k < 0:
				s += e.text
			default:
				n := k % (len(e.text) + 1)
				s += e.text[:n]
				torn = n < len(e.text)
			}
		}
		d[name] = &history{events: []event{{s, -1}}, safe: 1}
	}
	m.dirs = []map[string]*history{d}
	m.dead = true
}

func (m *model) used() int {
	n := 0
	for _, h := range m.dir() {
		n += len(h.now())
	}
	return n
}

// deed is an operation with its arguments.
type deed struct {
	call     string
	name, to string
	text     string
	long     int
}

func (d deed) do(f *fs.FS) api.Errno {
	switch d.call {
	case "Create":
		return f.Create(d.name)
	case "Append":
		return f.Append(d.name, []byte(d.text))
	case "Cut":
		return f.Cut(d.name, d.long)
	case "Sync":
		return f.Sync(d.name)
	case "Rename":
		return f.Rename(d.name, d.to)
	case "Remove":
		return f.Remove(d.name)
	}
	return f.SyncDir()
}

func goodName(s string) bool {
	return len(s) >= 1 && len(s) <= 32 && !strings.ContainsFunc(s, func(r rune) bool { return r < '!' || r > '~' || r == '/' })
}

// own is the error that P1.3 names for d.
func (m *model) own(d deed) api.Errno {
	h, is := m.dir()[d.name]
	switch {
	case d.call == "SyncDir":
		return api.OK
	case d.call == "Create" && !goodName(d.name):
		return api.ErrName
	case d.call == "Create" && is:
		return api.ErrFile
	case d.call != "Create" && !is:
		return api.ErrNoFile
	case d.call == "Cut" && (d.long < 0 || d.long > len(h.now())):
		return api.ErrRange
	case d.call == "Rename" && !goodName(d.to):
		return api.ErrName
	}
	return api.OK
}

func (m *model) do(d deed) api.Errno {
	if m.dead {
		return api.ErrDead
	}
	m.ops++
	if m.ops == m.plan.Crash {
		m.die()
		return api.ErrDead
	}
	if slices.Contains(m.plan.Fail, m.ops) {
		return api.ErrIO
	}
	if e := m.own(d); e != api.OK {
		return e
	}
	full := slices.Contains(m.plan.Full, m.ops)
	if full && (d.call == "Create" || d.call == "Append" || d.call == "SyncDir") {
		return api.ErrFull
	}
	if d.call == "Append" && d.text != "" && m.plan.Room > 0 && m.used()+len(d.text) > m.plan.Room {
		return api.ErrFull
	}
	m.done(d)
	return api.OK
}

func (m *model) done(d deed) {
	h := m.dir()[d.name]
	switch d.call {
	case "Create":
		m.next()[d.name] = &history{}
	case "Append":
		if d.text != "" {
			h.events = append(h.events, event{d.text, -1})
		}
	case "Cut":
		if d.long != len(h.now()) {
			h.events = append(h.events, event{"", d.long})
		}
	case "Sync":
		h.safe = len(h.events)
	case "Rename":
		if d.name != d.to {
			n := m.next()
			n[d.to] = h
			delete(n, d.name)
		}
	case "Remove":
		delete(m.next(), d.name)
	case "SyncDir":
		m.dirs = m.dirs[len(m.dirs)-1:]
	}
}

func (m *model) start(p api.Plan) {
	if !m.dead {
		m.die()
	}
	m.plan, m.ops, m.dead = p, 0, false
}

func (m *model) show(d map[string]*history, data func(*history) string) string {
	var out []string
	for _, name := range slices.Sorted(maps.Keys(d)) {
		out = append(out, name+"="+data(d[name]))
	}
	return strings.Join(out, " ")
}

// told is all that one can see of f, as a text.
func told(f *fs.FS) string {
	var b strings.Builder
	b.WriteString(show(f.Files()) + " | " + sizes(f) + " | " + show(f.Safe()))
	b.WriteString(" | " + strconv.Itoa(f.Ops()) + " " + strconv.FormatBool(f.Dead()) + " " + strconv.Itoa(f.Used()))
	for _, name := range deedNames() {
		n, e := f.Size(name)
		data, _ := f.Read(name, 0, n)
		b.WriteString(" | " + strconv.Itoa(n) + " " + strconv.Itoa(int(e)) + " " + string(data))
	}
	return b.String()
}

func (m *model) told() string {
	files, lens, used := "", "", 0
	if !m.dead {
		files = m.show(m.dir(), (*history).now)
		lens = m.show(m.dir(), func(h *history) string { return strconv.Itoa(len(h.now())) })
		used = m.used()
	}
	var b strings.Builder
	b.WriteString(files + " | " + lens + " | " + m.show(m.dirs[0], func(h *history) string { return h.data(h.safe) }))
	b.WriteString(" | " + strconv.Itoa(m.ops) + " " + strconv.FormatBool(m.dead) + " " + strconv.Itoa(used))
	for _, name := range deedNames() {
		n, e, data := 0, api.ErrDead, ""
		if !m.dead {
			e = api.ErrNoFile
			if h := m.dir()[name]; h != nil {
				data = h.now()
				n, e = len(data), api.OK
			}
		}
		b.WriteString(" | " + strconv.Itoa(n) + " " + strconv.Itoa(int(e)) + " " + data)
	}
	return b.String()
}

func deedNames() []string { return []string{"a", "b", "c", "d", "B", ""} }

func anyDeed(r *rand.Rand) deed {
	calls := []string{"Create", "Create", "Append", "Append", "Append", "Cut", "Sync", "Rename", "Remove", "SyncDir"}
	names := deedNames()
	return deed{
		call: calls[r.Intn(len(calls))],
		name: names[r.Intn(len(names))],
		to:   names[r.Intn(len(names))],
		text: "0123456789"[:r.Intn(5)],
		long: r.Intn(8) - 1,
	}
}

func anyPlan(r *rand.Rand) api.Plan {
	some := func(most, below, least int) []int {
		var l []int
		for range r.Intn(most) {
			l = append(l, r.Intn(below)+least)
		}
		return l
	}
	p := api.Plan{Keep: some(8, 12, -2), Fail: some(4, 40, 1), Full: some(6, 40, 1)}
	if r.Intn(2) == 0 {
		p.Crash = r.Intn(60)
	}
	if r.Intn(3) == 0 {
		p.Room = r.Intn(25)
	}
	return p
}

// P1.1 to P1.6

func TestModel(t *testing.T) {
	for seed := range int64(400) {
		r := rand.New(rand.NewSource(seed))
		p := anyPlan(r)
		f, m := fs.New(p), newModel(p)
		for i := range 150 {
			if r.Intn(40) == 0 {
				p = anyPlan(r)
				m.start(p)
				ok(t, f.Start(p))
			}
			d := anyDeed(r)
			if got, want := d.do(f), m.do(d); got != want {
				t.Fatalf("seed %d, deed %d %v: error %d, want %d", seed, i, d, got, want)
			}
			if got, want := told(f), m.told(); got != want {
				t.Fatalf("seed %d, deed %d %v:\n%s, want\n%s", seed, i, d, got, want)
			}
		}
	}
}

// P1.9

func TestTwins(t *testing.T) {
	for seed := range int64(100) {
		r := rand.New(rand.NewSource(seed))
		f := fs.New(anyPlan(r))
		for range 100 {
			if r.Intn(20) == 0 {
				f.Start(anyPlan(r))
			}
			anyDeed(r).do(f)
			g := f.Clone()
			before := told(f)
			h := g.Clone()
			for range 10 { // what happens to another clone is none of their concern
				anyDeed(r).do(h)
			}
			h.Start(api.Plan{})
			for _, x := range []*fs.FS{f, g} {
				wantText(t, "left alone", told(x), before)
			}
			for range 5 {
				d := anyDeed(r)
				wantErr(t, "a twin", d.do(g), d.do(f))
				wantText(t, "a twin", told(g), told(f))
			}
			x, y := f.Clone(), g.Clone()
			x.Start(api.Plan{})
			y.Start(api.Plan{})
			wantText(t, "a twin behind a crash", told(y), told(x))
		}
	}
}

// P1.10

func TestNeverAboveRoom(t *testing.T) {
	for seed := range int64(200) {
		r := rand.New(rand.NewSource(seed))
		f := fs.New(api.Plan{})
		for range 100 {
			if r.Intn(20) == 0 {
				p := anyPlan(r)
				p.Room = f.Used() + r.Intn(10) + 1
				g := f.Clone()
				g.Start(api.Plan{})
				if g.Used() <= p.Room {
					f.Start(p)
					keepRoom(t, f, p.Room, r)
				}
			}
			anyDeed(r).do(f)
		}
	}
}

func keepRoom(t *testing.T, f *fs.FS, room int, r *rand.Rand) {
	t.Helper()
	if f.Used() > room {
		return // it was above it at the start
	}
	for range 40 {
		anyDeed(r).do(f)
		if f.Used() > room {
			t.Fatalf("%d bytes where there is room for %d", f.Used(), room)
		}
	}
}
