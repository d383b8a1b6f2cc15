package fs_test

import (
	"bytes"
	"math"
	"slices"
	"strconv"
	"strings"
	"testing"

	"lectern/api"
	"lectern/fs"
)

// show is a list of files as a text: "a=xy b=".
func show(l []api.File) string {
	var out []string
	for _, x := range l {
		out = append(out, x.Name+"="+string(x.Data))
	}
	return strings.Join(out, " ")
}

// sizes is what Each tells, as a text: "a=2 b=0".
func sizes(f *fs.FS) string {
	var out []string
	for name, n := range f.Each() {
		out = append(out, name+"="+strconv.Itoa(n))
	}
	return strings.Join(out, " ")
}

func wantErr(t *testing.T, what string, got, want api.Errno) {
	t.Helper()
	if got != want {
		t.Errorf("%s: error %d, want %d", what, got, want)
	}
}

func wantText(t *testing.T, what, got, want string) {
	t.Helper()
	if got != want {
		t.Errorf("%s: %q, want %q", what, got, want)
	}
}

func wantInt(t *testing.T, what string, got, want int) {
	t.Helper()
	if got != want {
		t.Errorf("%s: %d, want %d", what, got, want)
	}
}

// ok fails the test if one of the operations did not answer OK.
func ok(t *testing.T, l ...api.Errno) {
	t.Helper()
	for i, e := range l {
		if e != api.OK {
			t.Fatalf("operation %d: error %d", i, e)
		}
	}
}

// operations are all calls that are counted, by name, with arguments that are good as long as there is a file a.
func operations() map[string]func(*fs.FS) api.Errno {
	return map[string]func(*fs.FS) api.Errno{
		"Create":  func(f *fs.FS) api.Errno { return f.Create("new") },
		"Append":  func(f *fs.FS) api.Errno { return f.Append("a", []byte("z")) },
		"Cut":     func(f *fs.FS) api.Errno { return f.Cut("a", 0) },
		"Sync":    func(f *fs.FS) api.Errno { return f.Sync("a") },
		"Rename":  func(f *fs.FS) api.Errno { return f.Rename("a", "b") },
		"Remove":  func(f *fs.FS) api.Errno { return f.Remove("a") },
		"SyncDir": func(f *fs.FS) api.Errno { return f.SyncDir() },
	}
}

// withA is a file system with one file a, "xy", of which nothing is safe; two operations are counted.
func withA(t *testing.T, p api.Plan) *fs.FS {
	t.Helper()
	f := fs.New(p)
	ok(t, f.Create("a"), f.Append("a", []byte("xy")))
	return f
}

// P1.1

func TestNewIsEmpty(t *testing.T) {
	f := fs.New(api.Plan{})
	if f.Dead() {
		t.Error("born dead")
	}
	wantInt(t, "Ops", f.Ops(), 0)
	wantInt(t, "Used", f.Used(), 0)
	wantText(t, "Files", show(f.Files()), "")
	wantText(t, "Safe", show(f.Safe()), "")
	wantText(t, "Each", sizes(f), "")
}

func TestNobodyMadeIt(t *testing.T) {
	for what, f := range map[string]*fs.FS{"nil": nil, "zero": new(fs.FS)} {
		for name, call := range operations() {
			wantErr(t, what+" "+name, call(f), api.ErrDead)
		}
		wantErr(t, what+" Start", f.Start(api.Plan{}), api.ErrDead)
		b, e := f.Read("a", 0, 0)
		wantErr(t, what+" Read", e, api.ErrDead)
		wantInt(t, what+" Read", len(b), 0)
		n, e := f.Size("a")
		wantErr(t, what+" Size", e, api.ErrDead)
		wantInt(t, what+" Size", n, 0)
		wantInt(t, what+" Files", len(f.Files()), 0)
		wantInt(t, what+" Safe", len(f.Safe()), 0)
		wantText(t, what+" Each", sizes(f), "")
		wantInt(t, what+" Ops", f.Ops(), 0)
		wantInt(t, what+" Used", f.Used(), 0)
		if !f.Dead() {
			t.Error(what, "lives")
		}
		if f.Clone() != nil {
			t.Error(what, "has a clone")
		}
	}
}

func TestPlanIsCopied(t *testing.T) {
	p := api.Plan{Keep: []int{-1}, Fail: []int{3}, Full: []int{4}}
	f := withA(t, p)
	p.Keep[0], p.Fail[0], p.Full[0] = 0, 9, 9
	wantErr(t, "Fail", f.Append("a", nil), api.ErrIO)
	wantErr(t, "Full", f.Append("a", nil), api.ErrFull)
	p = api.Plan{Keep: []int{0}, Fail: []int{2}, Full: []int{1}}
	ok(t, f.Start(p))
	wantText(t, "Keep", show(f.Files()), "a=xy")
	p.Keep[0], p.Fail[0], p.Full[0] = -1, 9, 9
	wantErr(t, "Full", f.Append("a", nil), api.ErrFull)
	wantErr(t, "Fail", f.Append("a", nil), api.ErrIO)
	ok(t, f.Append("a", []byte("z")), f.Start(api.Plan{}))
	wantText(t, "Keep", show(f.Files()), "a=xy")
}

func TestPlanIsNotChanged(t *testing.T) {
	p := api.Plan{Keep: []int{3, 1, 2}, Fail: []int{9, 7, 8}, Full: []int{6, 4, 5}}
	f := withA(t, p)
	f.Start(p)
	if !slices.Equal(p.Keep, []int{3, 1, 2}) || !slices.Equal(p.Fail, []int{9, 7, 8}) || !slices.Equal(p.Full, []int{6, 4, 5}) {
		t.Error(p)
	}
}

// P1.2

func TestDeadAnswersFirst(t *testing.T) {
	for name, call := range operations() {
		f := withA(t, api.Plan{Crash: 3, Keep: []int{-1}, Fail: []int{3, 4}, Full: []int{3, 4}})
		wantErr(t, name+" at the crash", call(f), api.ErrDead)
		if !f.Dead() {
			t.Error(name, "did not kill it")
		}
		wantInt(t, name+" counted", f.Ops(), 3)
		wantText(t, name+" not done", show(f.Safe()), "a=xy")
		for again, call := range operations() {
			wantErr(t, again+" when dead", call(f), api.ErrDead)
		}
		wantInt(t, "counted when dead", f.Ops(), 3)
		wantText(t, "done when dead", show(f.Safe()), "a=xy")
	}
}

func TestFailures(t *testing.T) {
	for name, call := range operations() {
		f := withA(t, api.Plan{Fail: []int{7, 3, 5, 3}, Keep: []int{-1}})
		wantErr(t, name, call(f), api.ErrIO)
		wantInt(t, name, f.Ops(), 3)
		wantText(t, name, show(f.Files()), "a=xy")
		wantText(t, name, show(f.Safe()), "")
		ok(t, call(f))
		wantInt(t, name, f.Ops(), 4)
	}
}

func TestFailsAheadOfItsOwnErrors(t *testing.T) {
	f := fs.New(api.Plan{Fail: []int{1, 2, 3, 4, 5, 6}})
	wantErr(t, "Create", f.Create(""), api.ErrIO)
	wantErr(t, "Append", f.Append("none", nil), api.ErrIO)
	wantErr(t, "Cut", f.Cut("none", -1), api.ErrIO)
	wantErr(t, "Sync", f.Sync("none"), api.ErrIO)
	wantErr(t, "Rename", f.Rename("none", ""), api.ErrIO)
	wantErr(t, "Remove", f.Remove("none"), api.ErrIO)
}

func TestFull(t *testing.T) {
	for name, call := range operations() {
		want, files, safe := api.OK, "", ""
		switch name {
		case "Create", "Append", "SyncDir":
			want, files, safe = api.ErrFull, "a=xy", ""
		case "Cut":
			files = "a="
		case "Sync":
			files = "a=xy"
		case "Rename":
			files = "b=xy"
		}
		f := withA(t, api.Plan{Full: []int{9, 3, 1 << 40}})
		wantErr(t, name, call(f), want)
		wantInt(t, name, f.Ops(), 3)
		wantText(t, name, show(f.Files()), files)
		wantText(t, name, show(f.Safe()), safe)
	}
}

func TestFullBehindItsOwnErrors(t *testing.T) {
	f := withA(t, api.Plan{Full: []int{3, 4, 5, 6}, Fail: []int{6}})
	wantErr(t, "Create", f.Create(" "), api.ErrName)
	wantErr(t, "Create", f.Create("a"), api.ErrFile)
	wantErr(t, "Append", f.Append("b", []byte("x")), api.ErrNoFile)
	wantErr(t, "SyncDir", f.SyncDir(), api.ErrIO)
}

func TestFullOfNoBytes(t *testing.T) {
	f := withA(t, api.Plan{Full: []int{3}})
	wantErr(t, "Append of nothing", f.Append("a", nil), api.ErrFull)
}

// P1.2, P1.10

func TestRoom(t *testing.T) {
	f := fs.New(api.Plan{Room: 5})
	ok(t, f.Create("a"), f.Create("b"), f.Append("a", []byte("xyz")))
	wantErr(t, "one too many", f.Append("b", []byte("123")), api.ErrFull)
	wantText(t, "nothing of it", show(f.Files()), "a=xyz b=")
	ok(t, f.Append("b", []byte("12")), f.Append("b", nil))
	wantErr(t, "full", f.Append("a", []byte("1")), api.ErrFull)
	wantErr(t, "no file", f.Append("c", []byte("1")), api.ErrNoFile)
	ok(t, f.Create("c"), f.Cut("a", 2), f.Append("c", []byte("1")))
	wantInt(t, "Used", f.Used(), 5)
	ok(t, f.Rename("c", "b"), f.Append("b", []byte("23")))
	wantText(t, "Files", show(f.Files()), "a=xy b=123")
	ok(t, f.Remove("a"), f.Append("b", []byte("45")))
	wantErr(t, "full again", f.Append("b", []byte("6")), api.ErrFull)
}

func TestRoomBelowWhatIsUsed(t *testing.T) {
	f := withA(t, api.Plan{Keep: []int{-1}})
	ok(t, f.Start(api.Plan{Room: 1}))
	ok(t, f.Append("a", nil), f.Append("a", []byte{}), f.Create("b"))
	wantErr(t, "Append", f.Append("a", []byte("z")), api.ErrFull)
	wantErr(t, "Append", f.Append("b", []byte("z")), api.ErrFull)
	ok(t, f.Cut("a", 0), f.Append("b", []byte("z")))
}

func TestRoomForAny(t *testing.T) {
	for _, room := range []int{0, -1, math.MinInt} {
		f := fs.New(api.Plan{Room: room})
		ok(t, f.Create("a"), f.Append("a", make([]byte, 100000)))
	}
}

func TestNumbersThatNoOperationHas(t *testing.T) {
	f := fs.New(api.Plan{Crash: -1, Fail: []int{0, -1, math.MinInt}, Full: []int{0, -1, math.MaxInt}})
	ok(t, f.Create("a"), f.Append("a", []byte("x")), f.SyncDir())
}

// P1.3

func TestNames(t *testing.T) {
	f := fs.New(api.Plan{})
	ok(t, f.Create("a"))
	for _, name := range []string{"", "/", "a/b", " ", "a b", "\x00", "\x7f", "\x80", "\u00e1", "a\n", strings.Repeat("n", api.MaxName+1)} {
		wantErr(t, "Create "+name, f.Create(name), api.ErrName)
		wantErr(t, "Rename to "+name, f.Rename("a", name), api.ErrName)
		wantErr(t, "Rename from "+name, f.Rename(name, name), api.ErrNoFile)
		wantErr(t, "Append "+name, f.Append(name, nil), api.ErrNoFile)
		wantErr(t, "Cut "+name, f.Cut(name, 0), api.ErrNoFile)
		wantErr(t, "Sync "+name, f.Sync(name), api.ErrNoFile)
		wantErr(t, "Remove "+name, f.Remove(name), api.ErrNoFile)
	}
	wantText(t, "Files", show(f.Files()), "a=")
	for _, name := range []string{"!", "~", ".", "..", "\\", "0", strings.Repeat("n", api.MaxName)} {
		ok(t, f.Create(name), f.Rename(name, "q"), f.Rename("q", name), f.Remove(name))
	}
}

func TestCreate(t *testing.T) {
	f := withA(t, api.Plan{})
	wantErr(t, "again", f.Create("a"), api.ErrFile)
	wantText(t, "Files", show(f.Files()), "a=xy")
	ok(t, f.Remove("a"), f.Create("a"))
	wantText(t, "Files", show(f.Files()), "a=")
}

func TestMaxFiles(t *testing.T) {
	f := fs.New(api.Plan{Full: []int{api.MaxFiles + 1}})
	for i := range api.MaxFiles {
		ok(t, f.Create(strconv.Itoa(i)))
	}
	wantErr(t, "one more", f.Create("a"), api.ErrLong)
	wantErr(t, "a name ahead", f.Create(""), api.ErrName)
	wantErr(t, "a file ahead", f.Create("0"), api.ErrFile)
	wantInt(t, "Files", len(f.Files()), api.MaxFiles)
	ok(t, f.Rename("0", "a"), f.Remove("a"), f.Create("b"))
	wantErr(t, "one more", f.Create("c"), api.ErrLong)
}

func TestAppend(t *testing.T) {
	f := withA(t, api.Plan{})
	b := []byte("12345")
	ok(t, f.Append("a", b[:3]), f.Append("a", nil))
	copy(b, "-----")
	wantText(t, "Files", show(f.Files()), "a=xy123")
	wantErr(t, "no file", f.Append("b", b), api.ErrNoFile)
	ok(t, f.Sync("a"), f.SyncDir())
	wantText(t, "Safe", show(f.Safe()), "a=xy123")
}

func TestMaxFile(t *testing.T) {
	f := withA(t, api.Plan{Room: 10, Full: []int{3}})
	most := make([]byte, api.MaxFile)
	wantErr(t, "one too many", f.Append("a", most[:api.MaxFile-1]), api.ErrLong)
	wantErr(t, "no file", f.Append("b", most), api.ErrNoFile)
	wantErr(t, "no room", f.Append("a", most[:api.MaxFile-2]), api.ErrFull)
	wantText(t, "Files", show(f.Files()), "a=xy")
	f = withA(t, api.Plan{})
	ok(t, f.Append("a", most[:api.MaxFile-2]))
	wantErr(t, "full", f.Append("a", most[:1]), api.ErrLong)
	ok(t, f.Append("a", nil), f.Cut("a", api.MaxFile-1), f.Append("a", most[:1]))
	wantInt(t, "Used", f.Used(), api.MaxFile)
}

func TestCut(t *testing.T) {
	f := withA(t, api.Plan{})
	wantErr(t, "no file", f.Cut("b", -1), api.ErrNoFile)
	for _, long := range []int{-1, math.MinInt, 3, math.MaxInt} {
		wantErr(t, "range", f.Cut("a", long), api.ErrRange)
	}
	ok(t, f.Cut("a", 2))
	wantText(t, "as long", show(f.Files()), "a=xy")
	ok(t, f.Cut("a", 1), f.Append("a", []byte("z")), f.Cut("a", 0), f.Cut("a", 0))
	wantText(t, "Files", show(f.Files()), "a=")
}

func TestSync(t *testing.T) {
	f := withA(t, api.Plan{})
	wantErr(t, "no file", f.Sync("b"), api.ErrNoFile)
	ok(t, f.SyncDir())
	wantText(t, "the name alone", show(f.Safe()), "a=")
	ok(t, f.Cut("a", 1), f.Append("a", []byte("bc")), f.Sync("a"), f.Cut("a", 2))
	wantText(t, "Safe", show(f.Safe()), "a=xbc")
	ok(t, f.Append("a", []byte("!!")))
	wantText(t, "Safe behind a cut", show(f.Safe()), "a=xbc")
	wantText(t, "Files", show(f.Files()), "a=xb!!")
	ok(t, f.Rename("a", "c"), f.Sync("c"))
	wantText(t, "Safe by its old name", show(f.Safe()), "a=xb!!")
}

func TestRename(t *testing.T) {
	f := withA(t, api.Plan{Keep: []int{1}})
	wantErr(t, "from ahead of to", f.Rename("b", ""), api.ErrNoFile)
	wantErr(t, "alike, but none", f.Rename("b", "b"), api.ErrNoFile)
	ok(t, f.Create("b"), f.Append("b", []byte("12")))
	ok(t, f.Rename("a", "a"))
	wantText(t, "alike", show(f.Files()), "a=xy b=12")
	ok(t, f.Rename("a", "b"))
	wantText(t, "over another", show(f.Files()), "b=xy")
	wantErr(t, "its old name", f.Append("a", nil), api.ErrNoFile)
}

func TestRenameAlikeIsNoMove(t *testing.T) {
	f := withA(t, api.Plan{Keep: []int{2, -1}})
	ok(t, f.Rename("a", "a"), f.Start(api.Plan{}))
	wantText(t, "2 mod 2 of one move", show(f.Files()), "")
}

func TestRemove(t *testing.T) {
	f := withA(t, api.Plan{})
	wantErr(t, "no file", f.Remove("b"), api.ErrNoFile)
	ok(t, f.Sync("a"), f.SyncDir(), f.Remove("a"))
	wantErr(t, "again", f.Remove("a"), api.ErrNoFile)
	wantText(t, "Files", show(f.Files()), "")
	wantText(t, "Safe", show(f.Safe()), "a=xy")
	ok(t, f.SyncDir())
	wantText(t, "Safe", show(f.Safe()), "")
}

// P1.4

func TestRead(t *testing.T) {
	f := fs.New(api.Plan{})
	ok(t, f.Create("a"), f.Append("a", []byte("hello")))
	for _, c := range []struct {
		name  string
		at, n int
		want  string
		e     api.Errno
	}{
		{"a", 0, 5, "hello", api.OK},
		{"a", 1, 3, "ell", api.OK},
		{"a", 5, 0, "", api.OK},
		{"a", 0, 0, "", api.OK},
		{"a", 0, 6, "", api.ErrRange},
		{"a", 5, 1, "", api.ErrRange},
		{"a", 6, 0, "", api.ErrRange},
		{"a", -1, 1, "", api.ErrRange},
		{"a", 1, -1, "", api.ErrRange},
		{"a", math.MaxInt, math.MaxInt, "", api.ErrRange},
		{"a", 1, math.MaxInt, "", api.ErrRange},
		{"a", math.MinInt, math.MinInt, "", api.ErrRange},
		{"b", -1, -1, "", api.ErrNoFile},
		{"", 0, 0, "", api.ErrNoFile},
	} {
		b, e := f.Read(c.name, c.at, c.n)
		wantErr(t, "Read", e, c.e)
		wantText(t, "Read", string(b), c.want)
	}
	wantInt(t, "Ops", f.Ops(), 2)
}

func TestSize(t *testing.T) {
	f := withA(t, api.Plan{})
	n, e := f.Size("a")
	wantErr(t, "Size", e, api.OK)
	wantInt(t, "Size", n, 2)
	n, e = f.Size("b")
	wantErr(t, "Size", e, api.ErrNoFile)
	wantInt(t, "Size", n, 0)
}

func TestAnswersAreCopies(t *testing.T) {
	f := withA(t, api.Plan{})
	ok(t, f.Sync("a"), f.SyncDir())
	b, _ := f.Read("a", 0, 1)
	spoil := func(b []byte) {
		for i := range b[:cap(b)] {
			b[:cap(b)][i] = '#'
		}
	}
	spoil(b)
	files, safe := f.Files(), f.Safe()
	spoil(files[0].Data)
	wantText(t, "another answer", show(safe), "a=xy")
	spoil(safe[0].Data)
	files[0].Name = "q"
	wantText(t, "Files", show(f.Files()), "a=xy")
	wantText(t, "Safe", show(f.Safe()), "a=xy")
	ok(t, f.Append("a", []byte("z")))
	wantText(t, "Files", show(f.Files()), "a=xyz")
}

func TestOrderOfFiles(t *testing.T) {
	f := fs.New(api.Plan{})
	for i, name := range []string{"b", "a", "B", "~", "!", "aa", "a0", "10", "9"} {
		ok(t, f.Create(name), f.Append(name, make([]byte, i)))
	}
	ok(t, f.SyncDir())
	want := "! 10 9 B a a0 aa b ~"
	for what, l := range map[string][]api.File{"Files": f.Files(), "Safe": f.Safe()} {
		var names []string
		for _, x := range l {
			names = append(names, x.Name)
		}
		wantText(t, what, strings.Join(names, " "), want)
	}
	wantText(t, "Each", sizes(f), "!=4 10=7 9=8 B=2 a=1 a0=6 aa=5 b=0 ~=3")
}

func TestEach(t *testing.T) {
	f := withA(t, api.Plan{})
	ok(t, f.Create("b"), f.Create("c"))
	each := f.Each()
	told := 0
	for name := range each {
		told++
		if name == "b" {
			break
		}
	}
	wantInt(t, "told up to b", told, 2)
	for range 2 {
		told = 0
		for name, n := range each {
			told++
			m, e := f.Size(name)
			wantErr(t, "Size", e, api.OK)
			wantInt(t, "Each", n, m)
		}
		wantInt(t, "told", told, 3)
	}
}

func TestEachWhileFilesGo(t *testing.T) {
	f := withA(t, api.Plan{})
	ok(t, f.Create("b"), f.Create("c"))
	each := f.Each()
	var names []string
	for name := range each {
		ok(t, f.Remove(name), f.Create(name+"2"))
		names = append(names, name)
	}
	wantText(t, "Each", strings.Join(names, " "), "a b c")
	wantText(t, "Files", show(f.Files()), "a2= b2= c2=")
	names = nil
	for name := range each {
		names = append(names, name)
	}
	wantText(t, "again", strings.Join(names, " "), "a b c")
}

func TestDeadTellsNothing(t *testing.T) {
	f := withA(t, api.Plan{Crash: 3, Keep: []int{-1}, Room: 2})
	f.Sync("a")
	_, e := f.Read("a", 0, 1)
	wantErr(t, "Read", e, api.ErrDead)
	_, e = f.Read("b", -1, -1)
	wantErr(t, "Read", e, api.ErrDead)
	n, e := f.Size("a")
	wantErr(t, "Size", e, api.ErrDead)
	wantInt(t, "Size", n, 0)
	wantText(t, "Files", show(f.Files()), "")
	wantText(t, "Each", sizes(f), "")
	wantText(t, "Safe", show(f.Safe()), "a=xy")
	wantInt(t, "Used", f.Used(), 0)
}

// P1.5

func TestOpsAndUsed(t *testing.T) {
	f := fs.New(api.Plan{Fail: []int{3}})
	ok(t, f.Create("a"), f.Append("a", []byte("xyz")))
	f.Append("a", []byte("io"))
	f.Create("")
	wantInt(t, "Ops", f.Ops(), 4)
	wantInt(t, "Used", f.Used(), 3)
	ok(t, f.Create("b"), f.Append("b", []byte("12")), f.Cut("a", 1))
	wantInt(t, "Used", f.Used(), 3)
	f.Files()
	f.Safe()
	f.Size("a")
	f.Read("a", 0, 1)
	f.Clone()
	wantInt(t, "Ops", f.Ops(), 7)
	ok(t, f.Sync("b"), f.SyncDir(), f.Start(api.Plan{}))
	wantInt(t, "Ops", f.Ops(), 0)
	wantInt(t, "Used", f.Used(), 2)
}

func TestBytesAreKeptAsTheyAre(t *testing.T) {
	f := fs.New(api.Plan{})
	var b []byte
	for i := range 256 {
		b = append(b, byte(i))
	}
	ok(t, f.Create("a"), f.Append("a", b), f.Append("a", b), f.Sync("a"), f.SyncDir(), f.Start(api.Plan{}))
	if got, _ := f.Read("a", 256, 256); !bytes.Equal(got, b) {
		t.Error(got)
	}
}
