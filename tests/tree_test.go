package tests

import (
	"fmt"
	"strings"
	"testing"

	"loop.example/g00295/impl"
)

// The names and signatures of chapter 6, as the document has them.
var (
	_ func(impl.Fs) int64                   = impl.FsFault
	_ func([][]byte) impl.FsResult          = impl.NewFs
	_ func(impl.Fs, int64) impl.BytesResult = impl.BytesIn
	_ func(impl.Fs) impl.IntsResult         = impl.ReachOf
	_ func(impl.Fs, impl.Fs) bool           = impl.SameFs
	_                                       = impl.Fs{Inodes: []impl.Inode(nil), Data: [][]byte(nil)}
	_                                       = impl.FsResult{Code: int64(0), Fs: impl.Fs{}}
)

// byteOf is the byte that trees made by tree have at this place of this inode.
func byteOf(at int, place int64) byte {
	return byte('a' + (int64(at)*5+place)%26)
}

// textOf is all bytes of an inode of such a tree.
func textOf(at int, size int64) []byte {
	var text []byte
	for place := range size {
		text = append(text, byteOf(at, place))
	}
	return text
}

// tree is a file system of these inodes, whose blocks have just the bytes that
// they should have.
func tree(list ...impl.Inode) impl.Fs {
	f := impl.Fs{Inodes: list, Data: make([][]byte, 20)}
	for at, x := range list {
		for place := range x.Size {
			block := x.Blocks[place/8]
			f.Data[block] = append(f.Data[block], byteOf(at, place))
		}
	}
	return f
}

type treeReach struct {
	what  string
	fs    impl.Fs
	reach []int64
}

// wholeTrees have no fault; what can be reached in them is written by hand.
func wholeTrees() []treeReach {
	return append([]treeReach{
		{"the top alone", tree(dir()), list(0)},
		{"the top, and one that is free", tree(dir(), kind(0)), list(0)},
		{"the top, and free ones up to MaxInodes", tree(append(inodes(dir()), alike(9, kind(0))...)...), list(0)},
		{"an empty file", tree(dir(entry("a", 1)), file(1, 0)), list(0, 1)},
		{"a file", tree(dir(entry("a", 1)), file(1, 9, 7, 3)), list(0, 1)},
		{"an empty directory", tree(dir(entry("a", 1)), dir()), list(0, 1)},
		{"files in the top", tree(dir(entry("a", 1), entry("b", 2), entry("c", 3)), file(1, 32, 0, 19, 4, 5), file(1, 0), file(1, 1, 6)), list(0, 1, 2, 3)},
		{"files whose places fall", tree(dir(entry("a", 3), entry("b", 2), entry("c", 1)), file(1, 8, 2), file(1, 7, 1), file(1, 9, 9, 0)), list(0, 1, 2, 3)},
		{"MaxEntries in the top", tree(append(inodes(dir(sixEntries()...)), alike(6, file(1, 0))...)...), list(0, 1, 2, 3, 4, 5, 6)},
		{"a file in a directory", tree(dir(entry("a", 1)), dir(entry("b", 2)), file(1, 16, 3, 8)), list(0, 1, 2)},
		{"a file ahead of its directory", tree(dir(entry("a", 2)), file(1, 8, 3), dir(entry("b", 1))), list(0, 1, 2)},
		{"directories in directories", tree(dir(entry("a", 1), entry("b", 2)), dir(entry("a", 3), entry("b", 4)), dir(entry("a", 5)), dir(), dir(), dir(entry("a", 6)), dir()), list(0, 1, 2, 3, 4, 5, 6)},
		{"a file with two names in one directory", tree(dir(entry("a", 1), entry("b", 1)), file(2, 9, 5, 6)), list(0, 1)},
		{"a file with two names in two directories", tree(dir(entry("a", 1), entry("b", 2)), file(2, 9, 5, 6), dir(entry("a", 1))), list(0, 1, 2)},
		{"a file with two names, none in the top", tree(dir(entry("a", 1), entry("b", 2)), dir(entry("x", 3)), dir(entry("x", 3)), file(2, 0)), list(0, 1, 2, 3)},
		{"two files with two names each", tree(dir(entry("a", 1), entry("b", 2), entry("c", 1), entry("d", 2)), file(2, 1, 0), file(2, 1, 1)), list(0, 1, 2)},
		{"free ones between", tree(dir(entry("a", 2), entry("b", 4)), kind(0), file(1, 8, 9), kind(0), dir(entry("a", 6)), kind(0), file(1, 3, 2)), list(0, 2, 4, 6)},
		{"free ones between, and at the end", tree(dir(entry("a", 8)), kind(0), kind(0), kind(0), kind(0), kind(0), kind(0), kind(0), dir(), kind(0)), list(0, 8)},
		{"the last one alone", tree(append(inodes(dir(entry("zzzz", 9))), append(alike(8, kind(0)), file(1, 32, 19, 18, 17, 16))...)...), list(0, 9)},
		{"all blocks in five files", tree(append(inodes(dir(sixEntries()[:5]...)), oneLink(fiveFiles())...)...), list(0, 1, 2, 3, 4, 5)},
	}, fullTrees()...)
}

// oneLink is these files, with one link each.
func oneLink(list []impl.Inode) []impl.Inode {
	for i := range list {
		list[i].Links = 1
	}
	return list
}

// fullTrees have MaxInodes inodes, none of which is free.
func fullTrees() []treeReach {
	all := upTo(10)
	rising, falling := inodes(dir(entry("a", 1))), alike(10, dir())
	for at := int64(2); at < 10; at++ {
		rising = append(rising, dir(entry("a", at)))
	}
	falling[0].Entries = []impl.Entry{entry("a", 9)}
	for at := int64(9); at > 1; at-- {
		falling[at].Entries = []impl.Entry{entry("a", at-1)}
	}
	wide := append(inodes(dir(sixEntries()...), dir(entry("x", 7), entry("y", 8), entry("z", 9))), tenFiles()[:8]...)
	return []treeReach{
		{"MaxInodes, a chain", tree(append(rising, file(1, 4, 2))...), all},
		{"MaxInodes, a chain that falls", tree(falling...), all},
		{"MaxInodes, most of them files", tree(wide...), all},
		{"MaxInodes, a file with as many names as can be", manyNames(), all},
	}
}

// manyNames: nine directories one below the other, each with entries as many
// as can be, lead to one file.
func manyNames() impl.Fs {
	var list []impl.Inode
	for at := range int64(9) {
		x := dir(entry("a", 9), entry("b", 9), entry("c", 9), entry("d", 9), entry("e", 9), entry("f", at+1))
		list = append(list, x)
	}
	return tree(append(list, file(46, 17, 11, 2, 7))...)
}

// modelReach goes over all entries until nothing more is found.
func modelReach(list []impl.Inode) []int64 {
	var in [10]bool
	in[0] = true
	for found := true; found; {
		found = false
		for at, x := range list {
			for _, e := range x.Entries {
				if in[at] && !in[e.Inode] {
					in[e.Inode] = true
					found = true
				}
			}
		}
	}
	var reach []int64
	for at, yes := range in {
		if yes {
			reach = append(reach, int64(at))
		}
	}
	return reach
}

// checkReach asks for the first half of promise 7.
func checkReach(t *testing.T, what string, f impl.Fs, want []int64) {
	t.Helper()
	r := impl.ReachOf(f)
	wantWords(t, what+": ReachOf", r, want)
	if !same(want, modelReach(f.Inodes)) {
		t.Errorf("%s: %v is not what can be reached, that is %v", what, want, modelReach(f.Inodes))
	}
	if len(r.List) == 0 || r.List[0] != 0 {
		t.Errorf("%s: 0 is not reached: %v", what, r)
	}
	for i, at := range r.List {
		if i > 0 && at <= r.List[i-1] {
			t.Errorf("%s: %v does not rise", what, r)
		}
		if at < 0 || at >= int64(len(f.Inodes)) || f.Inodes[at].Kind == impl.KindFree {
			t.Errorf("%s: %d is reached and is not there", what, at)
			continue
		}
		for _, e := range f.Inodes[at].Entries {
			if !among(r.List, e.Inode) {
				t.Errorf("%s: %d names %d, which is not reached: %v", what, at, e.Inode, r)
			}
		}
	}
}

func TestAllThatIsThereIsReached(t *testing.T) {
	for _, c := range wholeTrees() {
		wantCode(t, c.what, impl.FsFault(c.fs), impl.OK)
		checkReach(t, c.what, c.fs, c.reach)
		for at, x := range c.fs.Inodes {
			if (x.Kind == impl.KindFree) == among(c.reach, int64(at)) {
				t.Errorf("%s: of what is free none, of what is there all is reached: %d", c.what, at)
			}
		}
	}
}

// brokenTrees have a fault that stands behind those that ReachOf asks.
func brokenTrees() []treeReach {
	short, long, stray := tree(dir(entry("a", 1)), file(1, 9, 3, 4)), tree(dir(entry("a", 1)), file(1, 9, 3, 4)), tree(dir(entry("a", 1)), file(1, 9, 3, 4))
	short.Data[4] = nil
	long.Data[4] = []byte("xy")
	stray.Data[5] = []byte("x")
	return []treeReach{
		{"the top names itself", tree(dir(entry("a", 0))), list(0)},
		{"a directory names itself", tree(dir(entry("a", 1)), dir(entry("a", 1))), list(0, 1)},
		{"a directory names itself, nothing else names it", tree(dir(), dir(entry("a", 1))), list(0)},
		{"a directory names the top", tree(dir(entry("a", 1)), dir(entry("a", 0))), list(0, 1)},
		{"two name each other, nothing else names them", tree(dir(entry("a", 1)), file(1, 0), dir(entry("a", 3)), dir(entry("a", 2))), list(0, 1)},
		{"two name each other, the top names one", tree(dir(entry("a", 1)), dir(entry("a", 2)), dir(entry("a", 1))), list(0, 1, 2)},
		{"three name each other in a ring", tree(dir(), dir(entry("a", 2)), dir(entry("a", 3)), dir(entry("a", 1))), list(0)},
		{"a ring that names a file of the top", tree(dir(entry("a", 3)), dir(entry("a", 2), entry("b", 3)), dir(entry("a", 1)), file(2, 0)), list(0, 3)},
		{"a ring that names the top", tree(dir(entry("a", 3)), dir(entry("a", 2), entry("b", 0)), dir(entry("a", 1)), file(1, 0)), list(0, 3)},
		{"a directory with two names", tree(dir(entry("a", 1), entry("b", 1)), dir(entry("c", 2)), dir()), list(0, 1, 2)},
		{"a file that nothing names", tree(dir(), file(1, 8, 3)), list(0)},
		{"a directory that nothing names", tree(dir(entry("a", 1)), file(1, 0), dir()), list(0, 1)},
		{"a directory that nothing names, with a file", tree(dir(), dir(entry("a", 2)), file(1, 0)), list(0)},
		{"Links that are one more", tree(dir(entry("a", 1)), file(2, 8, 3)), list(0, 1)},
		{"Links that are one fewer", tree(dir(entry("a", 1), entry("b", 1)), file(1, 8, 3)), list(0, 1)},
		{"a byte too few", short, list(0, 1)},
		{"a byte too many", long, list(0, 1)},
		{"a byte of nobody", stray, list(0, 1)},
		{"all name all", tree(allNameAll(10)...), upTo(6)},
	}
}

// allNameAll is n directories, each of which names the first six.
func allNameAll(n int) []impl.Inode {
	return alike(n, dir(entry("a", 0), entry("b", 1), entry("c", 2), entry("d", 3), entry("e", 4), entry("f", 5)))
}

func TestReachOfWhatIsNotWhole(t *testing.T) {
	for _, c := range brokenTrees() {
		wantCode(t, c.what, impl.FsFault(c.fs), impl.ErrForm)
		checkReach(t, c.what, c.fs, c.reach)
	}
}

func TestBytesOfFiles(t *testing.T) {
	for _, c := range wholeTrees() {
		for at, x := range c.fs.Inodes {
			r := impl.BytesIn(c.fs, int64(at))
			want := impl.BytesResult{Bytes: textOf(at, x.Size)}
			switch x.Kind {
			case impl.KindDir:
				want = impl.BytesResult{Code: impl.ErrDir}
			case impl.KindFree:
				want = impl.BytesResult{Code: impl.ErrNone}
			}
			if !same(r, want) {
				t.Errorf("%s: BytesIn %d: %v, not %v", c.what, at, r, want)
			}
		}
	}
}

// A file of each number of bytes, in blocks that neither rise nor fall.
func TestBytesOfEachSize(t *testing.T) {
	for size := range int64(33) {
		blocks := list(12, 3, 19, 0)[:(size+7)/8]
		f := tree(dir(entry("a", 1), entry("b", 2)), file(1, size, blocks...), file(1, 3, 7))
		wantCode(t, fmt.Sprint(size, " bytes"), impl.FsFault(f), impl.OK)
		if r := impl.BytesIn(f, 1); !same(r, impl.BytesResult{Bytes: textOf(1, size)}) {
			t.Errorf("%d bytes: %v", size, r)
		}
	}
}

// Bytes are any bytes, and stand in the order of the Blocks, not of Data.
func TestBytesInOrder(t *testing.T) {
	f := tree(dir(entry("a", 1)), file(1, 17, 9, 2, 5))
	f.Data[9], f.Data[2], f.Data[5] = []byte("\x00\xff/\n 9Az"), []byte("hgfedcba"), []byte{0}
	if r := impl.BytesIn(f, 1); r.Code != impl.OK || string(r.Bytes) != "\x00\xff/\n 9Azhgfedcba\x00" {
		t.Error(r)
	}
}

// emptyData is n blocks without bytes.
func emptyData(n int) [][]byte {
	data := make([][]byte, n)
	for i := range data {
		if i%2 == 0 {
			data[i] = []byte{}
		}
	}
	return data
}

func TestNewFsIsTheTopAlone(t *testing.T) {
	wantNew := func(what string, data [][]byte) {
		t.Helper()
		r := impl.NewFs(data)
		if !same(r, impl.FsResult{Fs: tree(dir())}) || !impl.SameFs(r.Fs, tree(dir())) {
			t.Errorf("NewFs of %s: %v", what, r)
		}
		wantCode(t, what, impl.FsFault(r.Fs), impl.OK)
		checkReach(t, what, r.Fs, list(0))
	}
	wantNew("nil", nil)
	for n := range 21 {
		wantNew(fmt.Sprint(n, " empty blocks"), emptyData(n))
		wantNew(fmt.Sprint(n, " blocks that are nil"), make([][]byte, n))
	}
}

// What NewFs answers can be turned into a whole tree, block by block.
func TestNewFsTurned(t *testing.T) {
	f := impl.NewFs(nil).Fs
	f.Inodes[0].Entries = append(f.Inodes[0].Entries, sixEntries()[:5]...)
	f.Inodes = append(f.Inodes, oneLink(fiveFiles())...)
	for at := range f.Data {
		wantCode(t, fmt.Sprint("filled up to ", at), impl.FsFault(f), impl.ErrForm)
		f.Data[at] = append(f.Data[at], strings.Repeat(string(rune('a'+at)), 8)...)
	}
	f.Data[4], f.Data[15], f.Data[13] = f.Data[4][:1], f.Data[15][:7], f.Data[13][:2]
	wantCode(t, "filled", impl.FsFault(f), impl.OK)
	if r := impl.BytesIn(f, 2); string(r.Bytes) != "bbbbbbbbccccccccdddddddde" {
		t.Error(r)
	}
}
