package tests

import (
	"fmt"
	"slices"
	"testing"

	"loop.example/g00295/impl"
)

// The names and signatures of chapter 8, as the document has them.
var (
	_ func(impl.Fs, int64, string) impl.IntResult       = impl.LookName
	_ func(impl.Fs, int64, string, int64) impl.FsResult = impl.AddName
	_ func(impl.Fs, int64, string) impl.FsResult        = impl.DropName
	_ func(impl.Fs, int64) impl.NamesResult             = impl.NamesIn
	_ func(impl.Fs, int64) bool                         = impl.IsEmptyDir
)

// looseTrees are not whole: Links do not go with the entries, Data not with
// the files, and places cannot be reached.
func looseTrees() []fileTree {
	all := []fileTree{
		{"Links that are many more", tree(dir(entry("a", 1), entry("b", 2)), file(59, 9, 3, 4), dir(entry("a", 1)))},
		{"Links that are fewer", tree(dir(entry("a", 1), entry("b", 1), entry("c", 2)), file(1, 9, 3, 4), dir(entry("a", 1), entry("b", 1)))},
		{"Links that are fewer, and more than one", tree(dir(entry("a", 1), entry("b", 1), entry("c", 2)), file(2, 9, 3, 4), dir(entry("a", 1)))},
		{"a file that nothing names, with many links", tree(dir(entry("a", 2)), file(40, 9, 3, 4), dir())},
		{"files in a ring that nothing names", tree(dir(), dir(entry("a", 2), entry("b", 3)), dir(entry("a", 1), entry("b", 3), entry("c", 4)), file(1, 8, 0), file(5, 0))},
		{"a directory with many names", tree(dir(entry("a", 1), entry("ab", 1), entry("abc", 0)), dir(entry("a", 1), entry("b", 0), entry("c", 2)), file(1, 4, 6))},
	}
	for _, c := range brokenTrees() {
		all = append(all, fileTree{c.what, c.fs})
	}
	for _, n := range []int{0, 1, 7, 8} {
		f := tree(dir(entry("a", 1), entry("b", 3)), file(1, 20, 3, 4, 9), file(1, 8, 1), dir(entry("a", 2), entry("b", 1)))
		for at := range f.Data {
			f.Data[at] = freshText(int64(n))
		}
		all = append(all, fileTree{fmt.Sprint("each block of ", n, " bytes"), f})
	}
	return all
}

// dirTrees are whole ones, and ones that need not be.
func dirTrees() []fileTree {
	return append(fileTrees(), looseTrees()...)
}

func dirsIn(f impl.Fs) []int64 {
	var dirs []int64
	for at, x := range f.Inodes {
		if x.Kind == impl.KindDir {
			dirs = append(dirs, int64(at))
		}
	}
	return dirs
}

// thereIn is all places that are not free.
func thereIn(f impl.Fs) []int64 {
	var there []int64
	for at, x := range f.Inodes {
		if x.Kind != impl.KindFree {
			there = append(there, int64(at))
		}
	}
	return there
}

func namesOf(x impl.Inode) []string {
	var list []string
	for _, e := range x.Entries {
		list = append(list, e.Name)
	}
	return list
}

// freshNames are names that a directory has not: ahead of all that it has,
// behind all, between any two, beginnings of them, and such as they begin.
func freshNames(x impl.Inode) []string {
	tried := names("a", "aa", "aaaa", "ab", "abc", "abcd", "m", "zzzz")
	for _, name := range namesOf(x) {
		for n := 1; n < len(name); n++ {
			tried = append(tried, name[:n])
		}
		if len(name) < 4 {
			tried = append(tried, name+"a", name+"z")
		}
	}
	slices.Sort(tried)
	return slices.DeleteFunc(slices.Compact(tried), func(name string) bool { return slices.Contains(namesOf(x), name) })
}

func wantFs(t *testing.T, what string, r impl.FsResult, want impl.Fs) {
	t.Helper()
	if !same(r, impl.FsResult{Fs: want}) {
		t.Errorf("%s: %v, not %v", what, r, want)
	}
}

// checkLooks: each name of each directory leads where the entries of a list of
// inodes say, all names are told in order, and no other name leads anywhere.
func checkLooks(t *testing.T, what string, f impl.Fs, want []impl.Inode) {
	t.Helper()
	for _, at := range dirsIn(f) {
		told := fmt.Sprint(what, ": in ", at)
		wantNames(t, told+": NamesIn", impl.NamesIn(f, at), namesOf(want[at]))
		if impl.IsEmptyDir(f, at) != (len(want[at].Entries) == 0) {
			t.Errorf("%s: IsEmptyDir is wrong", told)
		}
		for _, e := range want[at].Entries {
			wantNumber(t, fmt.Sprint(told, ": LookName ", e.Name), impl.LookName(f, at, e.Name), e.Inode)
		}
		for _, name := range freshNames(want[at]) {
			wantNoNumber(t, fmt.Sprint(told, ": LookName ", name), impl.LookName(f, at, name), impl.ErrNone)
		}
	}
}

// checkNameAdded asks for all of promise 9 where a name was added.
func checkNameAdded(t *testing.T, what string, f impl.Fs, in int64, name string, at int64) impl.Fs {
	t.Helper()
	what = fmt.Sprint(what, ": AddName ", name, " in ", in, " of ", at)
	want := impl.Fs{Inodes: slices.Clone(f.Inodes), Data: f.Data}
	entries := append(slices.Clone(f.Inodes[in].Entries), entry(name, at))
	slices.SortFunc(entries, func(a, b impl.Entry) int {
		if a.Name < b.Name {
			return -1
		}
		return 1
	})
	want.Inodes[in].Entries = entries
	if f.Inodes[at].Kind == impl.KindFile {
		want.Inodes[at].Links++
	}
	r := impl.AddName(f, in, name, at)
	wantFs(t, what, r, want)
	if r.Code != impl.OK {
		t.FailNow()
	}
	wantNumber(t, what+": LookName", impl.LookName(r.Fs, in, name), at)
	checkLooks(t, what, r.Fs, want.Inodes)
	wantFs(t, what+", and dropped again", impl.DropName(r.Fs, in, name), f)
	return r.Fs
}

// checkNameDropped asks that a name is gone, and with it its file if it was the
// last link of it, and that nothing else turned.
func checkNameDropped(t *testing.T, what string, f impl.Fs, in int64, name string) impl.Fs {
	t.Helper()
	what = fmt.Sprint(what, ": DropName ", name, " in ", in)
	place := slices.Index(namesOf(f.Inodes[in]), name)
	at := f.Inodes[in].Entries[place].Inode
	want := impl.Fs{Inodes: slices.Clone(f.Inodes), Data: slices.Clone(f.Data)}
	want.Inodes[in].Entries = slices.Delete(slices.Clone(f.Inodes[in].Entries), place, place+1)
	if x := &want.Inodes[at]; x.Kind == impl.KindFile {
		switch left := modelLinks(want.Inodes, at); {
		case x.Links > 1:
			x.Links--
		case left == 0:
			for _, block := range x.Blocks {
				want.Data[block] = nil
			}
			*x = kind(0)
		}
	}
	r := impl.DropName(f, in, name)
	wantFs(t, what, r, want)
	if r.Code != impl.OK {
		t.FailNow()
	}
	wantNoNumber(t, what+": LookName", impl.LookName(r.Fs, in, name), impl.ErrNone)
	checkLooks(t, what, r.Fs, want.Inodes)
	return r.Fs
}

// Each new name is added in each directory, of each place that is there.
func TestEachNameAdded(t *testing.T) {
	for _, c := range dirTrees() {
		for _, in := range dirsIn(c.fs) {
			if len(c.fs.Inodes[in].Entries) == 6 {
				continue
			}
			for _, name := range freshNames(c.fs.Inodes[in]) {
				for _, at := range thereIn(c.fs) {
					checkNameAdded(t, c.what, c.fs, in, name, at)
				}
			}
		}
	}
}

// Each name is dropped in each directory; what was whole is whole behind it,
// if it was the name of a file.
func TestEachNameDropped(t *testing.T) {
	for _, c := range dirTrees() {
		whole := impl.FsFault(c.fs) == impl.OK
		checkLooks(t, c.what, c.fs, c.fs.Inodes)
		for _, in := range dirsIn(c.fs) {
			for _, e := range c.fs.Inodes[in].Entries {
				r := checkNameDropped(t, c.what, c.fs, in, e.Name)
				wantCode(t, c.what+": ReachOf", impl.ReachOf(r).Code, impl.OK)
				if whole && c.fs.Inodes[e.Inode].Kind == impl.KindFile {
					wantCode(t, fmt.Sprint(c.what, ": FsFault without ", e), impl.FsFault(r), impl.OK)
				}
			}
		}
	}
}

// What is whole is whole where a file has one name more.
func TestWholeWithOneNameMore(t *testing.T) {
	for _, c := range fileTrees() {
		for _, in := range dirsIn(c.fs) {
			for _, at := range filesIn(c.fs) {
				if len(c.fs.Inodes[in].Entries) < 6 {
					r := impl.AddName(c.fs, in, freshNames(c.fs.Inodes[in])[0], at)
					wantCode(t, fmt.Sprint(c.what, ": FsFault, one more in ", in, " of ", at), impl.FsFault(r.Fs), impl.OK)
				}
			}
		}
	}
}

// orders is all orders of these names.
func orders(list []string) [][]string {
	if len(list) == 0 {
		return [][]string{nil}
	}
	var all [][]string
	for i, name := range list {
		for _, rest := range orders(slices.Concat(list[:i], list[i+1:])) {
			all = append(all, append(names(name), rest...))
		}
	}
	return all
}

// Names that are beginnings of others, each added, looked up and dropped
// beside the others, in each order.
func TestNamesThatAreBeginnings(t *testing.T) {
	beginnings := names("a", "ab", "abc", "abcd")
	f := tree(dir(entry("a", 1), entry("b", 2), entry("c", 3), entry("d", 4), entry("e", 5)), file(1, 9, 3, 4), dir(), file(1, 0), file(1, 8, 0), dir())
	leads := map[string]int64{"a": 1, "ab": 3, "abc": 4, "abcd": 2}
	for _, adding := range orders(beginnings) {
		g := f
		for i, name := range adding {
			for _, other := range adding[i:] {
				wantNoNumber(t, "LookName "+other, impl.LookName(g, 5, other), impl.ErrNone)
				wantNoFs(t, "DropName "+other, impl.DropName(g, 5, other), impl.ErrNone)
			}
			g = checkNameAdded(t, fmt.Sprint(adding), g, 5, name, leads[name])
			for _, other := range adding[:i+1] {
				wantNumber(t, "LookName "+other, impl.LookName(g, 5, other), leads[other])
				wantNoFs(t, "AddName "+other, impl.AddName(g, 5, other, 1), impl.ErrTaken)
			}
		}
		wantNames(t, fmt.Sprint(adding), impl.NamesIn(g, 5), beginnings)
		for _, dropping := range orders(beginnings) {
			h := g
			for _, name := range dropping {
				h = checkNameDropped(t, fmt.Sprint(adding, dropping), h, 5, name)
			}
			if !impl.SameFs(h, f) {
				t.Errorf("added %v, dropped %v: %v, not %v", adding, dropping, h, f)
			}
		}
	}
}

// The first one, one in the middle, and the last one of a directory.
func TestWhereNamesStand(t *testing.T) {
	f := tree(dir(entry("b", 1), entry("dd", 2), entry("f", 3)), file(1, 9, 3, 4), dir(), file(1, 1, 7))
	for name, want := range map[string][]string{
		"a":    names("a", "b", "dd", "f"),
		"azzz": names("azzz", "b", "dd", "f"),
		"ba":   names("b", "ba", "dd", "f"),
		"c":    names("b", "c", "dd", "f"),
		"d":    names("b", "d", "dd", "f"),
		"dc":   names("b", "dc", "dd", "f"),
		"dda":  names("b", "dd", "dda", "f"),
		"e":    names("b", "dd", "e", "f"),
		"fa":   names("b", "dd", "f", "fa"),
		"g":    names("b", "dd", "f", "g"),
		"zzzz": names("b", "dd", "f", "zzzz"),
	} {
		for at := range int64(4) {
			r := checkNameAdded(t, "by hand", f, 0, name, at)
			wantNames(t, "AddName "+name, impl.NamesIn(r, 0), want)
		}
	}
	for name, want := range map[string][]string{"b": names("dd", "f"), "dd": names("b", "f"), "f": names("b", "dd")} {
		wantNames(t, "DropName "+name, impl.NamesIn(checkNameDropped(t, "by hand", f, 0, name), 0), want)
	}
	six := tree(dir(sixEntries()...), file(1, 0), file(1, 0), file(1, 0), file(1, 0), file(1, 0), file(1, 0))
	for _, name := range names("a", "b", "c", "d", "e", "f") {
		r := checkNameDropped(t, "of six", six, 0, name)
		wantCode(t, "room again", impl.AddName(r, 0, "x", 0).Code, impl.OK)
	}
	wantNames(t, "a file system of the top alone", impl.NamesIn(tree(dir()), 0), nil)
}

// One name stands in several directories, and leads elsewhere in each.
func TestOneNameInSeveral(t *testing.T) {
	f := tree(dir(entry("a", 1), entry("b", 2), entry("x", 3)), dir(entry("x", 4)), dir(entry("x", 5)), file(1, 1, 0), file(1, 2, 1), file(1, 3, 2), dir())
	f.Inodes[0].Entries = append(f.Inodes[0].Entries[:3:3], entry("y", 6))
	for in, at := range map[int64]int64{0: 3, 1: 4, 2: 5} {
		wantNumber(t, "LookName x", impl.LookName(f, in, "x"), at)
		r := checkNameDropped(t, "x in several", f, in, "x")
		wantCode(t, "the others are whole", impl.FsFault(r), impl.OK)
	}
	r := checkNameAdded(t, "x in one more", f, 6, "x", 3)
	wantNumber(t, "LookName x", impl.LookName(r, 6, "x"), 3)
	wantNoFs(t, "added again", impl.AddName(r, 6, "x", 4), impl.ErrTaken)
}

func TestIsEmptyDir(t *testing.T) {
	f := tree(dir(entry("a", 1), entry("b", 2), entry("c", 4)), dir(), file(1, 0), kind(0), dir(entry("a", 5)), file(1, 1, 0), dir())
	for at, want := range []bool{false, true, false, false, false, false, true} {
		if impl.IsEmptyDir(f, int64(at)) != want {
			t.Errorf("IsEmptyDir %d is not %v", at, want)
		}
	}
	if !impl.IsEmptyDir(impl.NewFs(nil).Fs, 0) {
		t.Error("a new one is not empty")
	}
	g := impl.DropName(f, 4, "a").Fs
	if !impl.IsEmptyDir(g, 4) || impl.IsEmptyDir(impl.AddName(g, 4, "z", 0).Fs, 4) {
		t.Error("a name that comes and goes")
	}
}
