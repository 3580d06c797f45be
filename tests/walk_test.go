package tests

import (
	"fmt"
	"math"
	"slices"
	"strings"
	"testing"

	"loop.example/g00295/impl"
)

// The names and signatures of chapter 9, as the document has them.
var (
	_ func(impl.Fs, string) impl.IntResult  = impl.WalkPath
	_ func(impl.Fs, string) impl.IntResult  = impl.WalkParent
	_ func(impl.Fs) impl.NamesResult        = impl.PathsOf
	_ func(impl.Fs, string) impl.StatResult = impl.StatOf
	_ func(impl.Fs, int64, int64) bool      = impl.IsWithin
	_                                       = impl.StatResult{Code: int64(0), Inode: int64(0), Kind: int64(0), Links: int64(0), Size: int64(0)}
)

// walkTree is a whole file system, with its paths written by hand.
type walkTree struct {
	what  string
	fs    impl.Fs
	paths []string
}

// rungs is the paths of directories one below the other, each named so.
func rungs(name string, n int) []string {
	var paths []string
	for i := range n {
		paths = append(paths, strings.Repeat("/"+name, i+1))
	}
	return paths
}

// ladder is nine directories, each of which names the next one so, and the
// last place; the tenth inode is what stands there.
func ladder(name string, last impl.Inode, more ...impl.Entry) impl.Fs {
	var all []impl.Inode
	for at := range int64(9) {
		x := dir(append([]impl.Entry{entry(name, at+1)}, more...)...)
		slices.SortFunc(x.Entries, func(a, b impl.Entry) int { return strings.Compare(a.Name, b.Name) })
		all = append(all, x)
	}
	return tree(append(all, last)...)
}

func flatTrees() []walkTree {
	return []walkTree{
		{"the top alone", tree(dir()), nil},
		{"the top, and free ones", tree(append(inodes(dir()), alike(9, kind(0))...)...), nil},
		{"a file", tree(dir(entry("a", 1)), file(1, 9, 7, 3)), names("/a")},
		{"an empty directory", tree(dir(entry("abcd", 1)), dir()), names("/abcd")},
		{"MaxEntries", tree(append(inodes(dir(sixEntries()...)), alike(6, file(1, 0))...)...), names("/a", "/b", "/c", "/d", "/e", "/f")},
		{"files whose places fall", tree(dir(entry("a", 3), entry("b", 2), entry("c", 1)), file(1, 8, 2), file(1, 7, 1), file(1, 9, 9, 0)), names("/a", "/b", "/c")},
		{"the last place alone", tree(append(append(inodes(dir(entry("zzzz", 9))), alike(8, kind(0))...), file(1, 8, 19))...), names("/zzzz")},
		{"a file of six names", tree(dir(entry("a", 1), entry("b", 1), entry("c", 1), entry("d", 1), entry("e", 1), entry("f", 1)), file(6, 0)), names("/a", "/b", "/c", "/d", "/e", "/f")},
	}
}

func nestedTrees() []walkTree {
	return []walkTree{
		{"a directory with a file, and a file behind it", tree(dir(entry("a", 1), entry("b", 3)), dir(entry("x", 2)), file(1, 16, 3, 8), file(1, 0)), names("/a", "/a/x", "/b")},
		{"directories in directories", tree(dir(entry("a", 1), entry("b", 2)), dir(entry("a", 3), entry("b", 4)), dir(entry("a", 5)), dir(), dir(), dir(entry("a", 6)), dir()),
			names("/a", "/a/a", "/a/b", "/b", "/b/a", "/b/a/a")},
		{"directories ahead of those that name them", tree(dir(entry("a", 3), entry("b", 1)), dir(entry("z", 4)), dir(entry("x", 5)), dir(entry("m", 2), entry("n", 5)), dir(), file(2, 0)),
			names("/a", "/a/m", "/a/m/x", "/a/n", "/b", "/b/z")},
		{"a file of three names in three directories", tree(dir(entry("a", 1), entry("b", 2), entry("c", 3)), dir(entry("x", 2)), file(3, 9, 4, 5), dir(entry("y", 2))),
			names("/a", "/a/x", "/b", "/c", "/c/y")},
		{"names that are beginnings of others", tree(dir(entry("a", 1), entry("aa", 2), entry("ab", 3), entry("b", 4)), dir(entry("a", 5), entry("z", 3)), dir(entry("a", 3)), file(3, 0), dir(), dir(entry("zzzz", 6)), file(1, 1, 0)),
			names("/a", "/a/a", "/a/a/zzzz", "/a/z", "/aa", "/aa/a", "/ab", "/b")},
		{"one name in several directories", tree(dir(entry("x", 1), entry("y", 2)), dir(entry("x", 3), entry("y", 4)), dir(entry("x", 4), entry("y", 3)), file(2, 1, 0), file(2, 2, 1)),
			names("/x", "/x/x", "/x/y", "/y", "/y/x", "/y/y")},
		{"free ones between", tree(dir(entry("a", 7), entry("b", 2)), kind(0), file(2, 8, 9), kind(0), dir(entry("q", 2)), kind(0), kind(0), dir(entry("m", 4)), kind(0)),
			names("/a", "/a/m", "/a/m/q", "/b")},
	}
}

// deepTrees have paths of MaxDepth names, and most of them such as are deeper.
func deepTrees() []walkTree {
	fall := alike(10, dir())
	fall[0].Entries = []impl.Entry{entry("a", 9)}
	for at := int64(9); at > 1; at-- {
		fall[at].Entries = []impl.Entry{entry("a", at-1)}
	}
	behind, ahead := rungs("a", 6), names()
	for depth := range 6 {
		behind = append(behind, strings.Repeat("/a", 5-depth)+"/b")
		ahead = append(ahead, strings.Repeat("/b", depth)+"/a", strings.Repeat("/b", depth)+"/b")
	}
	full := tree(dir(entry("abcd", 1)), dir(entry("efgh", 2)), dir(entry("ijkl", 3)), dir(entry("mnop", 4)), dir(entry("qrst", 5)), dir(entry("uvwx", 6)), file(1, 3, 2))
	both := tree(dir(entry("a", 1)), dir(entry("a", 2)), dir(entry("a", 3)), dir(entry("a", 4)), dir(entry("a", 5), entry("b", 6)), dir(entry("a", 7), entry("b", 8)), dir(entry("a", 8)), dir(entry("a", 8)), file(3, 0))
	return []walkTree{
		{"as deep as can be", ladder("a", dir()), rungs("a", 6)},
		{"as deep as can be, a file below", ladder("a", file(1, 9, 3, 4)), rungs("a", 6)},
		{"as deep as can be, places that fall", tree(fall...), rungs("a", 6)},
		{"as deep as can be, a file behind each", ladder("a", file(10, 9, 3, 4), entry("b", 9)), behind},
		{"as deep as can be, a file ahead of each", ladder("b", file(10, 9, 3, 4), entry("a", 9)), ahead},
		{"MaxDepth names of MaxName bytes", full, names("/abcd", "/abcd/efgh", "/abcd/efgh/ijkl", "/abcd/efgh/ijkl/mnop", "/abcd/efgh/ijkl/mnop/qrst", full6())},
		{"a file whose names are told and left out", both, append(rungs("a", 6), "/a/a/a/a/a/b", "/a/a/a/a/b", "/a/a/a/a/b/a")},
	}
}

// full6 is a path of as many bytes as there may be.
func full6() string {
	return "/abcd/efgh/ijkl/mnop/qrst/uvwx"
}

// mostPaths has as many paths as a whole file system can have: nine
// directories of MaxEntries, none of them deep, and a file with all names that
// are left. With ten directories there is no file, and so nine paths.
func mostPaths() walkTree {
	all := alike(9, dir())
	var paths []string
	for at := range int64(9) {
		for i, name := range names("a", "b", "c", "d", "e", "f") {
			to := int64(9)
			if at < 2 && i < 4 {
				to = 4*at + int64(i) + 1
			}
			all[at].Entries = append(all[at].Entries, entry(name, to))
		}
	}
	for _, first := range names("a", "b", "c", "d", "e", "f") {
		paths = append(paths, "/"+first)
		for _, second := range names("a", "b", "c", "d", "e", "f") {
			if first < "e" {
				paths = append(paths, "/"+first+"/"+second)
			}
			for _, third := range names("a", "b", "c", "d", "e", "f") {
				if first == "a" && second < "e" {
					paths = append(paths, "/a/"+second+"/"+third)
				}
			}
		}
	}
	return walkTree{"as many paths as can be", tree(append(all, file(46, 17, 11, 2, 7))...), paths}
}

func walkTrees() []walkTree {
	return append(slices.Concat(flatTrees(), nestedTrees(), deepTrees()), mostPaths())
}

// checkTold asks for all of promise 10.
func checkTold(t *testing.T, what string, f impl.Fs, paths []string) {
	t.Helper()
	told := impl.PathsOf(f)
	wantNames(t, what+": PathsOf", told, paths)
	met := map[string]bool{}
	for _, path := range told.Names {
		if met[path] {
			t.Errorf("%s: %s is told twice", what, path)
		}
		met[path] = true
		end, parent := impl.WalkPath(f, path), impl.WalkParent(f, path)
		if end.Code != impl.OK || !among(thereIn(f), end.Value) {
			t.Errorf("%s: %s leads to %v", what, path, end)
		}
		if parent.Code != impl.OK || !among(dirsIn(f), parent.Value) {
			t.Errorf("%s: the parent of %s is %v", what, path, parent)
			continue
		}
		wantNumber(t, what+": the last name of "+path, impl.LookName(f, parent.Value, impl.LastOf(path).Text), end.Value)
		wantNumber(t, what+": the way to the parent of "+path, impl.WalkPath(f, impl.ParentOf(path).Text), parent.Value)
	}
}

func TestPathsThatAreTold(t *testing.T) {
	for _, c := range walkTrees() {
		wantCode(t, c.what, impl.FsFault(c.fs), impl.OK)
		checkTold(t, c.what, c.fs, c.paths)
	}
}

// Names of the file go one by one: at each number of paths all are told.
func TestEachNumberOfPaths(t *testing.T) {
	c := mostPaths()
	if len(c.paths) != 54 {
		t.Fatalf("%d paths", len(c.paths))
	}
	for in := range int64(9) {
		wantNoFs(t, "one path more", impl.AddName(c.fs, in, "x", 9), impl.ErrMany)
	}
	f, paths := c.fs, c.paths
	for i := len(paths) - 1; i >= 0; i-- {
		if impl.WalkPath(f, paths[i]).Value != 9 {
			continue
		}
		f = impl.DropName(f, impl.WalkParent(f, paths[i]).Value, impl.LastOf(paths[i]).Text).Fs
		paths = slices.Delete(slices.Clone(paths), i, i+1)
		checkTold(t, fmt.Sprint(len(paths), " paths"), f, paths)
	}
	wantNames(t, "directories alone", impl.PathsOf(f), names("/a", "/a/a", "/a/b", "/a/c", "/a/d", "/b", "/c", "/d"))
}

// What would have 60 paths and more is not whole, so that none is told.
func TestMorePathsThanThereCanBe(t *testing.T) {
	tens := append(mostPaths().fs.Inodes[:9:9], dir(sixEntries()...))
	seven := mostPaths().fs
	seven.Inodes[8].Entries = append(seven.Inodes[8].Entries, entry("g", 9))
	twice := mostPaths().fs
	twice.Inodes[0].Entries[4].Inode, twice.Inodes[9].Links = 1, 45
	for what, c := range map[string]struct {
		fs   impl.Fs
		code int64
	}{
		"ten directories of MaxEntries":         {tree(tens...), impl.ErrForm},
		"eleven inodes":                         {tree(append(mostPaths().fs.Inodes[:9:9], dir(sixEntries()...), file(60, 0))...), impl.ErrMany},
		"more than MaxEntries":                  {seven, impl.ErrMany},
		"a directory of many paths by two":      {twice, impl.ErrForm},
		"all directories name all, in a ring":   {tree(allNameAll(10)...), impl.ErrForm},
		"all directories name all, six of them": {tree(allNameAll(6)...), impl.ErrForm},
	} {
		wantNoNames(t, what, impl.PathsOf(c.fs), c.code)
	}
}

// broken is a path, and where it leads, or the code where it breaks off.
type broken struct {
	path         string
	end, code    int64
	above, upper int64
}

// The way of each path, and that to its parent.
func brokenWays() (impl.Fs, []broken) {
	f := tree(
		dir(entry("a", 1), entry("ab", 7), entry("b", 2), entry("c", 3)),
		dir(entry("b", 4), entry("f", 2), entry("g", 5)),
		file(2, 9, 3, 4),
		dir(),
		dir(entry("x", 6)),
		file(1, 0),
		file(1, 1, 7),
		dir(entry("abcd", 8)),
		dir(),
		kind(0),
	)
	const none, no = impl.ErrNone, impl.ErrDir
	return f, []broken{
		{"/", 0, 0, 0, none},
		{"/a", 1, 0, 0, 0},
		{"/b", 2, 0, 0, 0},
		{"/c", 3, 0, 0, 0},
		{"/ab", 7, 0, 0, 0},
		{"/a/b", 4, 0, 1, 0},
		{"/a/f", 2, 0, 1, 0},
		{"/a/g", 5, 0, 1, 0},
		{"/a/b/x", 6, 0, 4, 0},
		{"/ab/abcd", 8, 0, 7, 0},
		// The last name is none.
		{"/x", 0, none, 0, 0},
		{"/aa", 0, none, 0, 0},
		{"/abc", 0, none, 0, 0},
		{"/f", 0, none, 0, 0},
		{"/z", 0, none, 0, 0},
		{"/a/a", 0, none, 1, 0},
		{"/a/c", 0, none, 1, 0},
		{"/a/h", 0, none, 1, 0},
		{"/c/a", 0, none, 3, 0},
		{"/a/b/b", 0, none, 4, 0},
		{"/ab/abc", 0, none, 7, 0},
		{"/ab/abcd/a", 0, none, 8, 0},
		// A name in the middle is none.
		{"/x/y", 0, none, 0, none},
		{"/x/b", 0, none, 0, none},
		{"/x/b/x", 0, none, 0, none},
		{"/a/x/x", 0, none, 0, none},
		{"/a/c/x", 0, none, 0, none},
		{"/c/b/x", 0, none, 0, none},
		{"/abc/abcd", 0, none, 0, none},
		{"/a/b/q/r/s/t", 0, none, 0, none},
		// The path goes on behind a file.
		{"/b/a", 0, no, 0, no},
		{"/b/b", 0, no, 0, no},
		{"/b/x", 0, no, 0, no},
		{"/b/zzzz", 0, no, 0, no},
		{"/b/x/y", 0, no, 0, no},
		{"/b/b/b/b/b/b", 0, no, 0, no},
		{"/a/f/b", 0, no, 0, no},
		{"/a/f/x/y", 0, no, 0, no},
		{"/a/g/x", 0, no, 0, no},
		{"/a/b/x/x", 0, no, 0, no},
		{"/a/b/x/x/x/x", 0, no, 0, no},
	}
}

func TestWhereWaysBreakOff(t *testing.T) {
	f, ways := brokenWays()
	for _, w := range ways {
		end, parent, stat := impl.WalkPath(f, w.path), impl.WalkParent(f, w.path), impl.StatOf(f, w.path)
		if end != (impl.IntResult{Code: w.code, Value: w.end}) {
			t.Errorf("WalkPath %s: %v, not code %d, %d", w.path, end, w.code, w.end)
		}
		if parent != (impl.IntResult{Code: w.upper, Value: w.above}) {
			t.Errorf("WalkParent %s: %v, not code %d, %d", w.path, parent, w.upper, w.above)
		}
		if stat.Code != w.code || stat.Inode != w.end || w.code != impl.OK && stat != (impl.StatResult{Code: w.code}) {
			t.Errorf("StatOf %s: %v, not code %d, %d", w.path, stat, w.code, w.end)
		}
	}
}

// The last name of a path may be anything: the parent is the same.
func TestParentsOfWhatIsNot(t *testing.T) {
	for _, c := range walkTrees() {
		for _, path := range append(names("/"), c.paths...) {
			if strings.Count(path, "/") == 6 {
				continue
			}
			end := impl.WalkPath(c.fs, path)
			wantCode(t, c.what+": "+path, end.Code, impl.OK)
			x := c.fs.Inodes[end.Value]
			for _, last := range append(freshNames(x), namesOf(x)...) {
				below := strings.TrimSuffix(path, "/") + "/" + last
				parent := impl.WalkParent(c.fs, below)
				if x.Kind == impl.KindDir {
					wantNumber(t, c.what+": WalkParent "+below, parent, end.Value)
				} else {
					wantNoNumber(t, c.what+": WalkParent "+below, parent, impl.ErrDir)
				}
			}
		}
	}
}

// A way of MaxDepth names leads on, one of one more is no path, though there
// is something there.
func TestTooDeep(t *testing.T) {
	for _, c := range deepTrees() {
		for _, path := range c.paths {
			wantCode(t, c.what+": "+path, impl.WalkPath(c.fs, path).Code, impl.OK)
			if strings.Count(path, "/") < 6 {
				continue
			}
			for _, name := range names("a", "b", "x") {
				wantWayCode(t, c.what, c.fs, path+"/"+name, impl.ErrMany)
			}
		}
	}
	f := ladder("a", dir())
	for n := 1; n < 12; n++ {
		path := strings.Repeat("/a", n)
		if n > 6 {
			wantWayCode(t, "by hand", f, path, impl.ErrMany)
			continue
		}
		wantNumber(t, "WalkPath "+path, impl.WalkPath(f, path), int64(n))
		wantNumber(t, "WalkParent "+path, impl.WalkParent(f, path), int64(n)-1)
		wantNumber(t, "WalkParent beside "+path, impl.WalkParent(f, strings.Repeat("/a", n-1)+"/x"), int64(n)-1)
	}
}

func wantStat(t *testing.T, what string, r, want impl.StatResult) {
	t.Helper()
	if r != want {
		t.Errorf("%s: %v, not %v", what, r, want)
	}
}

func TestStatByHand(t *testing.T) {
	for size := range int64(33) {
		blocks := list(12, 3, 19, 0)[:(size+7)/8]
		f := tree(dir(entry("a", 1), entry("b", 3), entry("c", 3)), dir(entry("a", 3), entry("b", 2)), file(1, size, blocks...), file(3, 1, 7))
		wantStat(t, "a file of one link", impl.StatOf(f, "/a/b"), impl.StatResult{Inode: 2, Kind: impl.KindFile, Links: 1, Size: size})
		for _, path := range names("/b", "/c", "/a/a") {
			wantStat(t, "a file of three", impl.StatOf(f, path), impl.StatResult{Inode: 3, Kind: impl.KindFile, Links: 3, Size: 1})
		}
		wantStat(t, "a directory", impl.StatOf(f, "/a"), impl.StatResult{Inode: 1, Kind: impl.KindDir, Links: 1, Size: 2})
		wantStat(t, "the top", impl.StatOf(f, "/"), impl.StatResult{Inode: 0, Kind: impl.KindDir, Links: 1, Size: 3})
	}
	for n := range int64(7) {
		x, last := dir(), kind(0)
		for _, e := range sixEntries()[:n] {
			x.Entries = append(x.Entries, entry(e.Name, 2))
			last = file(n, 0)
		}
		below, top := tree(dir(entry("a", 1)), x, last), tree(x, kind(0), last)
		wantStat(t, "a directory of each number", impl.StatOf(below, "/a"), impl.StatResult{Inode: 1, Kind: impl.KindDir, Links: 1, Size: n})
		wantStat(t, "a top of each number", impl.StatOf(top, "/"), impl.StatResult{Inode: 0, Kind: impl.KindDir, Links: 1, Size: n})
		if n > 0 {
			wantStat(t, "a file of each number", impl.StatOf(below, "/a/a"), impl.StatResult{Inode: 2, Kind: impl.KindFile, Links: n})
		}
	}
	wantStat(t, "the top alone", impl.StatOf(impl.NewFs(nil).Fs, "/"), impl.StatResult{Kind: impl.KindDir, Links: 1})
	most := mostPaths().fs
	wantStat(t, "a file of all names", impl.StatOf(most, "/b/c"), impl.StatResult{Inode: 9, Kind: impl.KindFile, Links: 46, Size: 17})
}

// Each path's stat is that of the inode it leads to.
func TestStatOfEachPath(t *testing.T) {
	for _, c := range walkTrees() {
		for _, path := range append(names("/"), c.paths...) {
			at := impl.WalkPath(c.fs, path).Value
			wantStat(t, c.what+": "+path, impl.StatOf(c.fs, path), modelStat(c.fs, at))
		}
	}
}

// What is within what, written by hand: of each top all that is within it.
func TestWithinByHand(t *testing.T) {
	f := tree(
		dir(entry("a", 1), entry("b", 2), entry("c", 3)),
		dir(entry("a", 4), entry("b", 5)),
		dir(entry("a", 5)),
		file(1, 8, 0),
		dir(entry("a", 6)),
		file(2, 9, 3, 4),
		dir(entry("a", 8)),
		kind(0),
		file(1, 0),
		kind(0),
	)
	wantCode(t, "by hand", impl.FsFault(f), impl.OK)
	for top, within := range map[int64][]int64{
		0: list(0, 1, 2, 3, 4, 5, 6, 8),
		1: list(1, 4, 5, 6, 8),
		2: list(2, 5),
		3: list(3),
		4: list(4, 6, 8),
		5: list(5),
		6: list(6, 8),
		7: nil, 8: list(8), 9: nil, 10: nil, -1: nil, math.MinInt64: nil, math.MaxInt64: nil,
	} {
		for _, at := range append(upTo(12), -1, math.MinInt64, math.MaxInt64) {
			if impl.IsWithin(f, at, top) != among(within, at) {
				t.Errorf("IsWithin %d, %d is not %v", at, top, among(within, at))
			}
		}
	}
}

// In a row of directories what is below is within what is above, however deep.
func TestWithinALadder(t *testing.T) {
	for _, last := range inodes(dir(), file(1, 9, 3, 4)) {
		f := ladder("a", last)
		for at := int64(-1); at < 12; at++ {
			for top := int64(-1); top < 12; top++ {
				want := at >= top && top >= 0 && at < 10
				if impl.IsWithin(f, at, top) != want {
					t.Errorf("IsWithin %d, %d is not %v", at, top, want)
				}
			}
		}
	}
}
