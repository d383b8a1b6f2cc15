package fs_test

import (
	"strings"
	"testing"

	"lectern/api"
	"lectern/fs"
)

// safeFiles is a file system with these files, "a=xy b=", all of them safe; n operations are counted.
func safeFiles(t *testing.T, p api.Plan, files string) *fs.FS {
	t.Helper()
	f := fs.New(p)
	for _, x := range strings.Fields(files) {
		name, data, _ := strings.Cut(x, "=")
		ok(t, f.Create(name), f.Append(name, []byte(data)), f.Sync(name))
	}
	ok(t, f.SyncDir())
	return f
}

// P1.6

func TestMovesThatSurvive(t *testing.T) {
	left := []string{"old=1", "old=1 t=T", "old=1 u=T", "b= old=1 u=T", "b=T old=1", "b=T", "b=T old="}
	for _, c := range []struct {
		keep []int
		n    int
	}{
		{nil, 0}, {[]int{}, 0}, {[]int{0}, 0}, {[]int{1}, 1}, {[]int{2}, 2}, {[]int{3}, 3}, {[]int{4}, 4}, {[]int{5}, 5}, {[]int{6}, 6},
		{[]int{7}, 0}, {[]int{8}, 1}, {[]int{13}, 6}, {[]int{14}, 0}, {[]int{-1}, 6}, {[]int{-7}, 6}, {[]int{2, -1}, 2}, {[]int{-1, 2}, 6},
	} {
		f := safeFiles(t, api.Plan{Keep: c.keep}, "old=1")
		ok(t, f.Create("t"), f.Append("t", []byte("T")), f.Sync("t"))
		ok(t, f.Rename("t", "u"), f.Create("b"), f.Rename("u", "b"), f.Remove("old"), f.Create("old"))
		wantText(t, "Safe ahead", show(f.Safe()), left[0])
		ok(t, f.Start(api.Plan{}))
		if got := show(f.Files()); got != left[c.n] {
			t.Errorf("%v: %q, want %q", c.keep, got, left[c.n])
		}
		wantText(t, "Safe", show(f.Safe()), left[c.n])
	}
}

func TestChangesThatSurvive(t *testing.T) {
	for _, c := range []struct {
		keep []int
		want string
	}{
		{nil, "safe"}, {[]int{}, "safe"}, {[]int{0}, "safe"}, {[]int{1}, "safe1"}, {[]int{3}, "sa"}, {[]int{-1}, "saNN"},
		{[]int{9, 1, -1}, "safe1"}, {[]int{9, 2, -1}, "safe12"}, {[]int{9, 4, -1, -1}, "safe"}, {[]int{9, -3, -1, -1}, "saNN"},
		{[]int{9, 3, 1, 0}, "sa"}, {[]int{9, 3, 1, 1}, "saN"}, {[]int{9, 3, 1, 2}, "saNN"}, {[]int{9, 3, 1, 3}, "sa"}, {[]int{9, 7, 7, 5}, "saNN"},
		{[]int{9, 3, 0, 2}, "safe123"}, {[]int{9, 3, 2, -1}, "safe123"}, {[]int{9, 3, -2, 2}, "saNN"}, {[]int{9, 3, -1, 1}, "saN"},
		{[]int{0, 3, 1}, "sa"}, {[]int{2, 3, 1}, "saNN"}, {[]int{5, 6}, "safe12"},
	} {
		f := safeFiles(t, api.Plan{Keep: c.keep}, "a=safe")
		ok(t, f.Append("a", []byte("123")), f.Append("a", nil), f.Cut("a", 7), f.Cut("a", 2), f.Append("a", []byte("NN")))
		ok(t, f.Start(api.Plan{}))
		if got := show(f.Files()); got != "a="+c.want {
			t.Errorf("%v: %q, want %q", c.keep, got, c.want)
		}
		wantText(t, "Safe", show(f.Safe()), "a="+c.want)
	}
}

func TestNumbersAreTakenForWhatIsLost(t *testing.T) {
	f := safeFiles(t, api.Plan{Keep: []int{0, 1, -1, 3, 1, -1}}, "b= a=")
	ok(t, f.Append("b", []byte("xy")), f.Append("a", []byte("12")), f.Append("a", []byte("34")), f.Cut("a", 1))
	ok(t, f.Start(api.Plan{}))
	wantText(t, "Files", show(f.Files()), "a=1 b=x")
}

func TestNumbersGoByTheNamesThatSurvive(t *testing.T) {
	for _, c := range []struct {
		keep []int
		want string
	}{
		{[]int{0, 1, 2}, "a=1 b=xy"},
		{[]int{1, 1, 2}, "b=x c=12"},
	} {
		f := safeFiles(t, api.Plan{Keep: c.keep}, "a= b=")
		ok(t, f.Append("a", []byte("12")), f.Append("b", []byte("xy")), f.Rename("a", "c"))
		ok(t, f.Start(api.Plan{}))
		wantText(t, "Files", show(f.Files()), c.want)
	}
}

func TestFilesWithoutANameTakeNoNumbers(t *testing.T) {
	f := safeFiles(t, api.Plan{Keep: []int{0, 1, -1}}, "b=")
	ok(t, f.Create("a"), f.Append("a", []byte("12")), f.Append("b", []byte("xy")))
	ok(t, f.Start(api.Plan{}))
	wantText(t, "Files", show(f.Files()), "b=x")
	ok(t, f.Create("a"))
	wantText(t, "made anew", show(f.Files()), "a= b=x")
}

func TestRemovedFilesComeBack(t *testing.T) {
	for _, c := range []struct {
		keep []int
		want string
	}{
		{[]int{0, 1}, "a=sx b=t"},
		{[]int{1, -1}, "b=t"},
		{[]int{2, -1}, "a=t"},
	} {
		f := safeFiles(t, api.Plan{Keep: c.keep}, "a=s b=t")
		ok(t, f.Append("a", []byte("xy")), f.Remove("a"), f.Rename("b", "a"))
		ok(t, f.Start(api.Plan{}))
		wantText(t, "Files", show(f.Files()), c.want)
	}
}

func TestSyncLeavesNoChanges(t *testing.T) {
	f := safeFiles(t, api.Plan{Keep: []int{0, 1}}, "a=")
	ok(t, f.Append("a", []byte("12")), f.Cut("a", 1), f.Sync("a"), f.Append("a", []byte("xy")))
	ok(t, f.Start(api.Plan{}))
	wantText(t, "Files", show(f.Files()), "a=1x")
}

func TestSurvivorsAreSafe(t *testing.T) {
	f := safeFiles(t, api.Plan{Keep: []int{-1, 1}}, "a=")
	ok(t, f.Append("a", []byte("12")), f.Rename("a", "b"))
	ok(t, f.Start(api.Plan{}), f.Start(api.Plan{}))
	wantText(t, "Files", show(f.Files()), "b=1")
	ok(t, f.Append("b", []byte("2")), f.Cut("b", 0), f.Create("c"))
	wantText(t, "Safe", show(f.Safe()), "b=1")
	ok(t, f.Start(api.Plan{}))
	wantText(t, "Files", show(f.Files()), "b=1")
}

func TestStart(t *testing.T) {
	f := safeFiles(t, api.Plan{Crash: 6, Keep: []int{0, 1}}, "a=s")
	ok(t, f.Append("a", []byte("xy")))
	wantErr(t, "the crash", f.Sync("a"), api.ErrDead)
	wantText(t, "what survived", show(f.Safe()), "a=sx")
	ok(t, f.Start(api.Plan{Crash: 3, Fail: []int{2}, Keep: []int{-1}}))
	if f.Dead() {
		t.Fatal("still dead")
	}
	wantText(t, "dies but once", show(f.Files()), "a=sx")
	wantInt(t, "Ops", f.Ops(), 0)
	ok(t, f.Append("a", []byte("12")))
	wantErr(t, "the new plan's Fail", f.Sync("a"), api.ErrIO)
	wantErr(t, "the new plan's crash", f.Sync("a"), api.ErrDead)
	wantText(t, "the new plan's Keep", show(f.Safe()), "a=sx12")
	ok(t, f.Start(api.Plan{}), f.Create("b"), f.Create("c"), f.Create("d"))
	wantInt(t, "Ops", f.Ops(), 3)
}

func TestExamples(t *testing.T) {
	f := fs.New(api.Plan{})
	ok(t, f.Create("a"), f.Append("a", []byte("xy")), f.Sync("a"))
	g := f.Clone()
	ok(t, g.SyncDir(), f.Start(api.Plan{}), g.Start(api.Plan{}))
	wantText(t, "without SyncDir", show(f.Files()), "")
	wantText(t, "with SyncDir", show(g.Files()), "a=xy")

	f = fs.New(api.Plan{Keep: []int{1}})
	ok(t, f.Create("t"), f.Append("t", []byte("new")), f.Sync("t"), f.Rename("t", "c"))
	g = f.Clone()
	ok(t, g.SyncDir(), f.Start(api.Plan{}), g.Start(api.Plan{}))
	wantText(t, "one of two moves", show(f.Files()), "t=new")
	wantText(t, "both", show(g.Files()), "c=new")
}

// keeps are plans of what survives: all, nothing, and much between.
func keeps() [][]int {
	out := [][]int{nil, {-1}, {0, -1}, {-1, 0}}
	for a := -1; a < 6; a++ {
		for b := -1; b < 6; b++ {
			out = append(out, []int{a, b}, []int{a, b, 1}, []int{a, 3, b, 2})
		}
	}
	return out
}

// P1.7

func TestSyncedIsSafe(t *testing.T) {
	for _, keep := range keeps() {
		for crash := range 10 {
			f := safeFiles(t, api.Plan{}, "b=b c=c")
			ok(t, f.Create("a"), f.Append("a", []byte("123")), f.Cut("a", 2), f.Sync("a"), f.SyncDir())
			g := f.Clone()
			ok(t, g.Start(api.Plan{Crash: crash, Keep: keep}))
			g.Append("b", []byte("x"))
			g.Create("d")
			g.Rename("b", "d")
			g.Remove("c")
			g.Sync("d")
			g.Create("c")
			g.SyncDir()
			g.Cut("d", 0)
			g.Start(api.Plan{})
			if b, e := g.Read("a", 0, 2); e != api.OK || string(b) != "12" {
				t.Fatal(keep, crash, b, e)
			}
			wantInt(t, "its size", len(g.Files()[0].Data), 2)
		}
	}
}

// P1.8

func TestBeginningsSurvive(t *testing.T) {
	dirs := []string{"a b", "b", "b c", "c"}
	datas := map[string]string{"a": "s s1 s12 s123 - 4 45", "b": "t tx", "c": "t tx"}
	for _, keep := range keeps() {
		f := safeFiles(t, api.Plan{Keep: keep}, "a=s b=t")
		ok(t, f.Append("a", []byte("123")), f.Append("b", []byte("x")), f.Cut("a", 0), f.Append("a", []byte("45")))
		ok(t, f.Remove("a"), f.Create("c"), f.Rename("b", "c"))
		ok(t, f.Start(api.Plan{}))
		var names []string
		for _, x := range f.Files() {
			names = append(names, x.Name)
			data := string(x.Data)
			if data == "" {
				data = "-"
			}
			may := datas[x.Name]
			if len(names) == 2 && x.Name == "c" {
				may = "-" // the one that Rename did not replace
			}
			if !strings.Contains(" "+may+" ", " "+data+" ") {
				t.Errorf("%v: %s has %q", keep, x.Name, x.Data)
			}
		}
		known := false
		for _, d := range dirs {
			known = known || d == strings.Join(names, " ")
		}
		if !known {
			t.Errorf("%v: the directory is %v", keep, names)
		}
	}
}

func TestNothingIsLost(t *testing.T) {
	f := safeFiles(t, api.Plan{Keep: []int{-1}}, "a=s b=t")
	ok(t, f.Append("a", []byte("123")), f.Cut("a", 2), f.Append("a", []byte("4")), f.Rename("a", "c"), f.Create("a"), f.Remove("b"))
	all := show(f.Files())
	wantText(t, "ahead", all, "a= c=s14")
	ok(t, f.Start(api.Plan{}))
	wantText(t, "behind", show(f.Files()), all)
}

// P1.5, P1.9

func TestCloneGoesOnAlike(t *testing.T) {
	for _, keep := range keeps() {
		f := safeFiles(t, api.Plan{Crash: 18, Keep: keep, Fail: []int{13}, Full: []int{14}, Room: 9}, "a=s b=t d=")
		ok(t, f.Append("a", []byte("12")), f.Rename("b", "c"))
		g := f.Clone()
		wantInt(t, "Ops", g.Ops(), f.Ops())
		wantText(t, "Safe", show(g.Safe()), show(f.Safe()))
		wantText(t, "Files", show(g.Files()), show(f.Files()))
		for range 2 { // one goes on, and then the other: neither sees what the other did
			wantErr(t, "Fail", f.Append("a", []byte("xx")), api.ErrIO)
			wantErr(t, "Full", f.Append("a", []byte("xx")), api.ErrFull)
			wantErr(t, "Room", f.Append("a", []byte("345678")), api.ErrFull)
			ok(t, f.Append("c", []byte("345")), f.Create("e"))
			wantText(t, "Files", show(f.Files()), "a=s12 c=t345 d= e=")
			wantErr(t, "Crash", f.SyncDir(), api.ErrDead)
			f, g = g, f
		}
		wantText(t, "Safe", show(f.Safe()), show(g.Safe()))
		h := f.Clone()
		if !h.Dead() || h.Ops() != 18 {
			t.Error("a dead one's clone", h.Dead(), h.Ops())
		}
		wantText(t, "Safe of a dead one's clone", show(h.Safe()), show(f.Safe()))
		ok(t, h.Start(api.Plan{}), h.Create("new"))
		if !f.Dead() || len(f.Files()) > 0 || strings.Contains(show(f.Safe()), "new") {
			t.Error("the clone's life is the other's")
		}
	}
}

func TestCloneSharesNothing(t *testing.T) {
	f := safeFiles(t, api.Plan{Keep: []int{-1}}, "a=12345")
	ok(t, f.Append("a", []byte("67")), f.Create("b"), f.Append("b", []byte("xyz")))
	g := f.Clone()
	ok(t, f.Cut("a", 1), f.Append("a", []byte("------")), f.Sync("a"), f.Cut("b", 0), f.Append("b", []byte("--")), f.SyncDir(), f.Remove("b"))
	wantText(t, "Files", show(g.Files()), "a=1234567 b=xyz")
	wantText(t, "Safe", show(g.Safe()), "a=12345")
	ok(t, g.Append("a", []byte("++")), g.Append("b", []byte("++")), g.Sync("a"))
	wantText(t, "Files", show(f.Files()), "a=1------")
	wantText(t, "Safe", show(f.Safe()), "a=1------ b=")
	ok(t, g.Start(api.Plan{}))
	wantText(t, "Files", show(g.Files()), "a=1234567++ b=xyz++")
}

// Lists that grow have room behind their ends: there the two must not meet.
func TestCloneSharesNoRoom(t *testing.T) {
	for n := range 10 {
		f := safeFiles(t, api.Plan{Keep: []int{-1}}, "a=")
		for range n {
			ok(t, f.Append("a", []byte("x")), f.Rename("a", "b"), f.Rename("b", "a"))
		}
		g := f.Clone()
		ok(t, f.Append("a", []byte("f")), f.Create("f"))
		ok(t, g.Append("a", []byte("g")), g.Create("g"))
		data := "a=" + strings.Repeat("x", n)
		wantText(t, "Files", show(f.Files()), data+"f f=")
		wantText(t, "Files", show(g.Files()), data+"g g=")
		ok(t, f.Start(api.Plan{}), g.Start(api.Plan{}))
		wantText(t, "behind a crash", show(f.Files()), data+"f f=")
		wantText(t, "behind a crash", show(g.Files()), data+"g g=")
	}
}

func TestCloneHasItsOwnFiles(t *testing.T) {
	f := safeFiles(t, api.Plan{Keep: []int{0, -1}}, "a=1 b=2")
	ok(t, f.Rename("a", "c"), f.Append("c", []byte("x")), f.Remove("b"), f.Create("b"))
	g := f.Clone()
	ok(t, g.Append("c", []byte("y")), g.Sync("c"), g.Append("b", []byte("z")))
	wantText(t, "Files", show(g.Files()), "b=z c=1xy")
	wantText(t, "Safe by the old name", show(g.Safe()), "a=1xy b=2")
	wantText(t, "the other's Files", show(f.Files()), "b= c=1x")
	wantText(t, "the other's Safe", show(f.Safe()), "a=1 b=2")
	ok(t, f.Start(api.Plan{}), g.Start(api.Plan{}))
	wantText(t, "behind", show(f.Files()), "a=1x b=2")
	wantText(t, "behind", show(g.Files()), "a=1xy b=2")
}
