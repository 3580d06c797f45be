package tests

import (
	"fmt"
	"slices"
	"strings"
	"testing"

	"loop.example/g00295/impl"
)

// The names and signatures of chapter 11, as the document has them.
var (
	_ func(impl.Fs) impl.ItemsResult       = impl.ItemsOf
	_ func(impl.Fs, impl.Fs) bool          = impl.SameTrees
	_ func(impl.Fs) impl.TextResult        = impl.TreeText
	_ func(impl.Fs, int64) impl.TextResult = impl.PathOf
	_ func(impl.Fs) impl.IntResult         = impl.SizeOf
	_                                      = impl.Item{Path: "", Kind: int64(0), Links: int64(0), Bytes: []byte(nil), First: ""}
	_                                      = impl.ItemsResult{Code: int64(0), Items: []impl.Item(nil)}
)

func dirItem(path string) impl.Item {
	return impl.Item{Path: path, Kind: impl.KindDir, Links: 1, First: path}
}

// fileItem is a file by one of its names; the first is the path itself, where
// none is told.
func fileItem(path string, links int64, text []byte, first ...string) impl.Item {
	return impl.Item{Path: path, Kind: impl.KindFile, Links: links, Bytes: text, First: append(first, path)[0]}
}

func wantItems(t *testing.T, what string, r impl.ItemsResult, want []impl.Item) {
	t.Helper()
	if !same(r, impl.ItemsResult{Items: want}) {
		t.Errorf("%s: %v, not %v", what, r, want)
	}
}

func wantNoItems(t *testing.T, what string, r impl.ItemsResult, code int64) {
	t.Helper()
	if !same(r, impl.ItemsResult{Code: code}) {
		t.Errorf("%s: %v, not code %d alone", what, r, code)
	}
}

// itemTree is a whole file system, with its items written by hand.
type itemTree struct {
	what  string
	fs    impl.Fs
	items []impl.Item
}

func items(list ...impl.Item) []impl.Item {
	return list
}

func plainItems() []itemTree {
	t := textOf
	return []itemTree{
		{"the top alone", tree(dir()), nil},
		{"the top, and free ones", tree(append(inodes(dir()), alike(9, kind(0))...)...), nil},
		{"an empty directory", tree(dir(entry("a", 1)), dir()), items(dirItem("/a"))},
		{"a file of no bytes", tree(dir(entry("a", 1)), file(1, 0)), items(fileItem("/a", 1, nil))},
		{"a file", tree(dir(entry("a", 1)), file(1, 9, 7, 3)), items(fileItem("/a", 1, t(1, 9)))},
		{"a file of as many bytes as can be", tree(dir(entry("a", 1)), file(1, 32, 19, 2, 0, 7)), items(fileItem("/a", 1, t(1, 32)))},
		{"directories in directories", tree(dir(entry("a", 1), entry("b", 2)), dir(entry("a", 3), entry("b", 4)), dir(entry("a", 5)), dir(), dir(), dir(entry("a", 6)), dir()),
			items(dirItem("/a"), dirItem("/a/a"), dirItem("/a/b"), dirItem("/b"), dirItem("/b/a"), dirItem("/b/a/a"))},
		{"files whose places fall", tree(dir(entry("a", 3), entry("b", 2), entry("c", 1)), file(1, 8, 2), file(1, 7, 1), file(1, 9, 9, 0)),
			items(fileItem("/a", 1, t(3, 9)), fileItem("/b", 1, t(2, 7)), fileItem("/c", 1, t(1, 8)))},
		{"free ones between", tree(dir(entry("a", 2), entry("b", 5)), kind(0), file(1, 8, 9), kind(0), kind(0), dir(entry("c", 6)), file(1, 3, 2), kind(0)),
			items(fileItem("/a", 1, t(2, 8)), dirItem("/b"), fileItem("/b/c", 1, t(6, 3)))},
	}
}

// namedItems have files of several names; the first name stands in the order of
// paths, which is not that of inodes, of depths, or of directories alone.
func namedItems() []itemTree {
	t := textOf
	return []itemTree{
		{"two names in one directory", tree(dir(entry("a", 1), entry("b", 1)), file(2, 9, 5, 6)),
			items(fileItem("/a", 2, t(1, 9)), fileItem("/b", 2, t(1, 9), "/a"))},
		{"two names of no bytes", tree(dir(entry("a", 1), entry("b", 1)), file(2, 0)),
			items(fileItem("/a", 2, nil), fileItem("/b", 2, nil, "/a"))},
		{"the first name stands deeper", tree(dir(entry("a", 1), entry("b", 3)), dir(entry("a", 2)), dir(entry("a", 3)), file(2, 9, 5, 6)),
			items(dirItem("/a"), dirItem("/a/a"), fileItem("/a/a/a", 2, t(3, 9)), fileItem("/b", 2, t(3, 9), "/a/a/a"))},
		{"the first name stands higher", tree(dir(entry("a", 3), entry("b", 1)), dir(entry("a", 2)), dir(entry("a", 3)), file(2, 9, 5, 6)),
			items(fileItem("/a", 2, t(3, 9)), dirItem("/b"), dirItem("/b/a"), fileItem("/b/a/a", 2, t(3, 9), "/a"))},
		{"a directory that comes ahead by its order alone", tree(dir(entry("a", 1), entry("aa", 2), entry("b", 2)), dir(entry("b", 2)), file(3, 9, 5, 6)),
			items(dirItem("/a"), fileItem("/a/b", 3, t(2, 9)), fileItem("/aa", 3, t(2, 9), "/a/b"), fileItem("/b", 3, t(2, 9), "/a/b"))},
		{"a directory that comes behind by its order alone", tree(dir(entry("a", 2), entry("aa", 1), entry("b", 2)), dir(entry("a", 2)), file(3, 9, 5, 6)),
			items(fileItem("/a", 3, t(2, 9)), dirItem("/aa"), fileItem("/aa/a", 3, t(2, 9), "/a"), fileItem("/b", 3, t(2, 9), "/a"))},
		{"directories whose places fall", tree(dir(entry("a", 2), entry("b", 1)), dir(entry("a", 3)), dir(entry("z", 3)), file(2, 1, 5)),
			items(dirItem("/a"), fileItem("/a/z", 2, t(3, 1)), dirItem("/b"), fileItem("/b/a", 2, t(3, 1), "/a/z"))},
		{"three names in three directories", tree(dir(entry("a", 1), entry("b", 2), entry("c", 3)), dir(entry("x", 2)), file(3, 9, 4, 5), dir(entry("y", 2))),
			items(dirItem("/a"), fileItem("/a/x", 3, t(2, 9)), fileItem("/b", 3, t(2, 9), "/a/x"), dirItem("/c"), fileItem("/c/y", 3, t(2, 9), "/a/x"))},
		{"two files, crosswise", tree(dir(entry("x", 1), entry("y", 2)), dir(entry("x", 3), entry("y", 4)), dir(entry("x", 4), entry("y", 3)), file(2, 1, 0), file(2, 2, 1)),
			items(dirItem("/x"), fileItem("/x/x", 2, t(3, 1)), fileItem("/x/y", 2, t(4, 2)), dirItem("/y"), fileItem("/y/x", 2, t(4, 2), "/x/y"), fileItem("/y/y", 2, t(3, 1), "/x/x"))},
		{"two files of the same bytes, by turns", tree(dir(entry("a", 2), entry("b", 1), entry("c", 2), entry("d", 1)), file(2, 0), file(2, 0)),
			items(fileItem("/a", 2, nil), fileItem("/b", 2, nil), fileItem("/c", 2, nil, "/a"), fileItem("/d", 2, nil, "/b"))},
		{"a name that is a beginning of others", tree(dir(entry("a", 1), entry("ab", 2), entry("abc", 1)), file(2, 1, 3), dir(entry("a", 3)), file(1, 0)),
			items(fileItem("/a", 2, t(1, 1)), dirItem("/ab"), fileItem("/ab/a", 1, nil), fileItem("/abc", 2, t(1, 1), "/a"))},
	}
}

// deepItems have names that are too deep to be told, and Links that count them.
func deepItems() []itemTree {
	var rows []impl.Item
	for _, path := range rungs("a", 6) {
		rows = append(rows, dirItem(path))
	}
	file2, file10 := textOf(9, 9), []impl.Item{}
	for n := range 6 {
		file10 = append(file10, fileItem(strings.Repeat("/b", n)+"/a", 10, file2, "/a"), dirItem(strings.Repeat("/b", n+1)))
	}
	behind := ladder("a", file(2, 9, 3, 4))
	behind.Inodes[0].Entries = []impl.Entry{entry("a", 1), entry("b", 9)}
	return []itemTree{
		{"as deep as can be", ladder("a", dir()), rows},
		{"a file too deep", ladder("a", file(1, 9, 3, 4)), rows},
		{"a file whose first name is too deep", behind, append(slices.Clone(rows), fileItem("/b", 2, file2))},
		{"a file ahead of each directory", ladder("b", file(10, 9, 3, 4), entry("a", 9)), file10},
	}
}

func itemTrees() []itemTree {
	return slices.Concat(plainItems(), namedItems(), deepItems())
}

func TestItemsByHand(t *testing.T) {
	for _, c := range itemTrees() {
		wantItems(t, c.what, impl.ItemsOf(c.fs), c.items)
		checkListed(t, c.what, c.fs)
	}
}

// checkItems asks for the first half of promise 12: the paths are those of
// PathsOf, each with what the other functions tell of it.
func checkItems(t *testing.T, what string, f impl.Fs) {
	t.Helper()
	told, paths := impl.ItemsOf(f), impl.PathsOf(f).Names
	wantCode(t, what+": ItemsOf", told.Code, impl.OK)
	if len(told.Items) != len(paths) {
		t.Fatalf("%s: items %v of paths %v", what, told.Items, paths)
	}
	met := map[int64]string{}
	for i, x := range told.Items {
		stat := impl.StatOf(f, paths[i])
		if _, there := met[stat.Inode]; !there {
			met[stat.Inode] = paths[i]
		}
		want := impl.Item{Path: paths[i], Kind: stat.Kind, Links: stat.Links, Bytes: impl.BytesIn(f, stat.Inode).Bytes, First: met[stat.Inode]}
		if !same(x, want) {
			t.Errorf("%s: item %d is %v, not %v", what, i, x, want)
		}
		if slices.Contains(paths[:i], x.Path) {
			t.Errorf("%s: %s is told twice", what, x.Path)
		}
		if x.Kind == impl.KindDir && (x.First != x.Path || x.Links != 1 || len(x.Bytes) > 0) {
			t.Errorf("%s: a directory is %v", what, x)
		}
		if len(x.Bytes) > 0 && x.Kind != impl.KindFile {
			t.Errorf("%s: bytes of no file: %v", what, x)
		}
		wantText(t, what+": PathOf what "+x.Path+" leads to", impl.PathOf(f, stat.Inode), x.First)
	}
}

func TestItemsOfAllTrees(t *testing.T) {
	for _, c := range walkTrees() {
		checkListed(t, c.what, c.fs)
		if told := impl.ItemsOf(c.fs).Items; len(told) != len(c.paths) {
			t.Errorf("%s: %d items, not %d", c.what, len(told), len(c.paths))
		}
	}
	for _, c := range fileTrees() {
		checkListed(t, c.what, c.fs)
	}
}

// As many items as there can be; names of the file go one by one, from the
// first on, so that each of them is the first one once.
func TestFirstNamesThatGo(t *testing.T) {
	f := mostPaths().fs
	for links := int64(46); links > 0; links-- {
		checkListed(t, fmt.Sprint(links, " links"), f)
		first := impl.PathOf(f, 9).Text
		for _, x := range impl.ItemsOf(f).Items {
			if x.Kind == impl.KindFile && (x.First != first || x.Links != links) {
				t.Errorf("%d links: %v, not first %s", links, x, first)
			}
		}
		f = wantDone(t, "the first name goes", f, call(impl.CallUnlink, first), nil, impl.CallResult{})
	}
	wantNoText(t, "no name is left", impl.PathOf(f, 9), impl.ErrNone)
	wantItems(t, "no name is left", impl.ItemsOf(f), items(dirItem("/a"), dirItem("/a/a"), dirItem("/a/b"), dirItem("/a/c"), dirItem("/a/d"), dirItem("/b"), dirItem("/c"), dirItem("/d")))
}

// checkMade asks what is promised of what is made, with what is listed: it is
// there and empty, and all else is as it was.
func checkMade(t *testing.T, what string, f, after impl.Fs, c impl.Call) {
	t.Helper()
	fresh := fileItem(c.Path, 1, nil)
	if c.Kind == impl.CallDir {
		fresh = dirItem(c.Path)
	}
	var rest []impl.Item
	found := 0
	for _, x := range impl.ItemsOf(after).Items {
		if x.Path != c.Path {
			rest = append(rest, x)
			continue
		}
		found++
		if !same(x, fresh) {
			t.Errorf("%s: %v made %v, not %v", what, c, x, fresh)
		}
	}
	if found != 1 {
		t.Errorf("%s: %v: it is told %d times", what, c, found)
	}
	wantItems(t, fmt.Sprint(what, ": all but ", c.Path), impl.ItemsOf(f), rest)
	wantNumber(t, fmt.Sprint(what, ": SizeOf"), impl.SizeOf(after), impl.SizeOf(f).Value)
}

func TestWhatIsMadeIsListed(t *testing.T) {
	trees := fileTrees()
	for _, c := range itemTrees() {
		trees = append(trees, fileTree{c.what, c.fs})
	}
	count := 0
	for _, c := range trees {
		for _, x := range append(items(dirItem("/")), impl.ItemsOf(c.fs).Items...) {
			if x.Kind != impl.KindDir {
				continue
			}
			in := c.fs.Inodes[impl.WalkPath(c.fs, x.Path).Value]
			for _, name := range freshNames(in) {
				for made := range makers() {
					ask := call(made, strings.TrimSuffix(x.Path, "/")+"/"+name)
					r := impl.DoCall(c.fs, ask, nil)
					if r.Reply != impl.OK {
						wantItems(t, c.what+": not made", impl.ItemsOf(r.Fs), impl.ItemsOf(c.fs).Items)
						continue
					}
					count++
					checkMade(t, c.what, c.fs, r.Fs, ask)
					wantText(t, c.what, impl.PathOf(r.Fs, r.Value), ask.Path)
				}
			}
		}
	}
	if count < 500 {
		t.Errorf("only %d were made", count)
	}
}

// Paths of inodes, written by hand; 10 stands for all places that are none.
func TestPathOfByHand(t *testing.T) {
	f := tree(
		dir(entry("b", 3), entry("ba", 4), entry("c", 2)),
		kind(0),
		dir(entry("a", 4), entry("b", 6)),
		dir(entry("x", 4), entry("y", 5)),
		file(3, 9, 5, 6),
		dir(entry("x", 7)),
		file(2, 0),
		file(1, 3, 0),
		kind(0),
	)
	f.Inodes[5].Entries = append(f.Inodes[5].Entries, entry("y", 6))
	for at, path := range map[int64]string{0: "/", 2: "/c", 3: "/b", 4: "/b/x", 5: "/b/y", 6: "/b/y/y", 7: "/b/y/x"} {
		wantText(t, fmt.Sprint("PathOf ", at), impl.PathOf(f, at), path)
	}
	for _, at := range list(1, 8) {
		wantNoText(t, fmt.Sprint("PathOf ", at), impl.PathOf(f, at), impl.ErrNone)
	}
	for _, at := range list(-1<<63, -1, 9, 10, 1<<32, 1<<32+4, 1<<63-1) {
		wantNoText(t, fmt.Sprint("PathOf ", at), impl.PathOf(f, at), impl.ErrRange)
	}
}

// What is there and too deep to be told has no path.
func TestPathOfWhatIsTooDeep(t *testing.T) {
	for _, last := range inodes(dir(), file(1, 9, 3, 4)) {
		f := ladder("a", last)
		wantText(t, "the top", impl.PathOf(f, 0), "/")
		for at := int64(1); at < 10; at++ {
			if at < 7 {
				wantText(t, fmt.Sprint("at ", at), impl.PathOf(f, at), strings.Repeat("/a", int(at)))
			} else {
				wantNoText(t, fmt.Sprint("at ", at), impl.PathOf(f, at), impl.ErrNone)
			}
		}
		wantNoText(t, "at 10", impl.PathOf(f, 10), impl.ErrRange)
	}
}

func TestSizeOfByHand(t *testing.T) {
	for what, c := range map[string]struct {
		fs   impl.Fs
		size int64
	}{
		"the top alone":                       {tree(dir()), 0},
		"directories alone":                   {ladder("a", dir()), 0},
		"free ones":                           {tree(append(inodes(dir()), alike(9, kind(0))...)...), 0},
		"files of no bytes":                   {tree(dir(entry("a", 1), entry("b", 2)), file(1, 0), file(1, 0)), 0},
		"a file of one byte":                  {tree(dir(entry("a", 1)), file(1, 1, 3)), 1},
		"a file of 32":                        {tree(dir(entry("a", 1)), file(1, 32, 3, 4, 5, 6)), 32},
		"two files":                           {tree(dir(entry("a", 1), entry("b", 2)), file(1, 9, 3, 4), file(1, 5, 0)), 14},
		"two names in one directory":          {tree(dir(entry("a", 1), entry("b", 1)), file(2, 9, 5, 6)), 9},
		"three names in three":                {tree(dir(entry("a", 1), entry("b", 2), entry("c", 3)), dir(entry("x", 2)), file(3, 9, 4, 5), dir(entry("y", 2))), 9},
		"46 names":                            {mostPaths().fs, 17},
		"a file of several, and one of one":   {tree(dir(entry("a", 1), entry("b", 1), entry("c", 2)), file(2, 32, 5, 6, 7, 8), file(1, 32, 1, 2, 3, 4)), 64},
		"all blocks, full":                    {fullFiles(), 160},
		"a file below":                        {tree(dir(entry("a", 1)), dir(entry("b", 2)), file(1, 16, 3, 8)), 16},
		"a file too deep":                     {ladder("a", file(1, 9, 3, 4)), 9},
		"a file whose first name is too deep": {deepItems()[2].fs, 9},
	} {
		wantNumber(t, what, impl.SizeOf(c.fs), c.size)
	}
}

// fullFiles is five files that have all bytes that there can be.
func fullFiles() impl.Fs {
	all := inodes(dir(sixEntries()[:5]...))
	for n := range int64(5) {
		all = append(all, file(1, 32, n, n+5, n+10, n+15))
	}
	return tree(all...)
}

func TestSizeOfEachSize(t *testing.T) {
	for size := range int64(33) {
		for _, links := range list(1, 2, 6) {
			var entries []impl.Entry
			for _, e := range sixEntries()[:links] {
				entries = append(entries, entry(e.Name, 1))
			}
			f := tree(dir(entries...), file(links, size, list(12, 3, 19, 0)[:(size+7)/8]...))
			wantNumber(t, fmt.Sprint(size, " bytes, ", links, " links"), impl.SizeOf(f), size)
		}
	}
}
