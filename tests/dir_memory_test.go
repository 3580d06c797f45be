package tests

import (
	"math"
	"strings"
	"testing"

	"loop.example/g00295/impl"
)

// checkDirCalls asks all functions of chapter 8 for promise 1 at a directory.
func checkDirCalls(t *testing.T, f impl.Fs, in int64, tried []string, places []int64) {
	t.Helper()
	checkCall(t, "NamesIn", impl.NamesIn, f, in)
	checkCall(t, "IsEmptyDir", impl.IsEmptyDir, f, in)
	for _, name := range tried {
		checkCall(t, "LookName", impl.LookName, f, in, name)
		checkCall(t, "DropName", impl.DropName, f, in, name)
		for _, at := range places {
			checkCall(t, "AddName", impl.AddName, f, in, name, at)
		}
	}
}

// File systems whose lists have room behind their ends, share memory, are nil,
// or have faults.
func TestDirsPromiseOne(t *testing.T) {
	tried := names("a", "aa", "ab", "c", "zzzz", "", "A", "abcde")
	for i, f := range memoryTrees() {
		for _, in := range list(-1, 0, 1, 2, int64(len(f.Inodes))) {
			checkDirCalls(t, f, in, tried, list(-1, 0, 1, int64(len(f.Inodes))))
		}
		if t.Failed() {
			t.Fatal("at file system ", i)
		}
	}
	for _, c := range looseTrees() {
		for _, in := range dirsIn(c.fs) {
			checkDirCalls(t, c.fs, in, append(freshNames(c.fs.Inodes[in]), namesOf(c.fs.Inodes[in])...), thereIn(c.fs))
		}
	}
}

// roomy has entries with room behind their ends, and what stands there is seen
// if it turns.
func roomy() impl.Fs {
	room := []impl.Entry{entry("b", 1), entry("d", 2), entry("f", 1), entry("h", 2), entry("j", 1), entry("l", 2), entry("n", 1), entry("p", 2)}
	f := tree(dir(room[:3]...), file(2, 9, 3, 4), dir(), file(1, 20, 5, 6, 7))
	f.Inodes[2].Entries = room[3:5]
	long := freshText(40)
	f.Data[3], f.Data[8], f.Inodes = long[:8], long[:0], f.Inodes[:3]
	return f
}

func TestRoomBehindEntries(t *testing.T) {
	for _, in := range list(0, 2) {
		checkDirCalls(t, roomy(), in, names("a", "b", "c", "d", "e", "f", "g", "h", "i", "j", "z"), upTo(3))
	}
	f := roomy()
	r := impl.AddName(f, 0, "a", 1)
	wantNames(t, "added ahead", impl.NamesIn(r.Fs, 0), names("a", "b", "d", "f"))
	r = impl.AddName(f, 0, "z", 1)
	wantNames(t, "added behind", impl.NamesIn(r.Fs, 0), names("b", "d", "f", "z"))
	r = impl.DropName(f, 0, "b")
	wantNames(t, "dropped", impl.NamesIn(r.Fs, 0), names("d", "f"))
	if !same(f, roomy()) || !same(f.Inodes[0].Entries[:8], roomy().Inodes[0].Entries[:8]) {
		t.Errorf("the argument is %v", f)
	}
}

// The file system's own names, and pieces of them, are handed in.
func TestNamesThatShare(t *testing.T) {
	text := strings.Clone("abcdefgh")
	f := tree(dir(entry(text[:4], 1), entry(text[4:], 2)), dir(entry(text[1:3], 2)), file(2, 9, 3, 4))
	for in := range int64(2) {
		checkDirCalls(t, f, in, names(text[:1], text[:4], text[4:], text[1:3], text[3:5], text[:5]), upTo(3))
	}
	r := impl.AddName(f, 1, text[:4], 2)
	wantNames(t, "a name of another directory", impl.NamesIn(r.Fs, 1), names("abcd", "bc"))
}

// Numbers from end to end, and long names.
func TestDirsAtFarArguments(t *testing.T) {
	far := list(math.MinInt64, math.MinInt64+1, -1<<62, -1<<32, 1<<31, 1<<32, 1<<32+1, 1<<62, math.MaxInt64-1, math.MaxInt64)
	f := tree(dir(entry("a", 1), entry("b", 2)), file(1, 9, 3, 4), dir())
	for _, in := range append(far, 0, 2) {
		checkDirCalls(t, f, in, names("a", "c", strings.Repeat("a", 100000), strings.Repeat("/", 100000), "\x00", "é"), far)
	}
	checkDirCalls(t, impl.Fs{}, 0, names("", "a"), list(0))
	checkDirCalls(t, impl.Fs{Inodes: inodes(), Data: [][]byte{}}, 0, names("", "a"), list(0))
	checkDirCalls(t, impl.Fs{Inodes: inodes(impl.Inode{Kind: impl.KindDir, Blocks: []int64{}, Entries: []impl.Entry{}}), Data: make([][]byte, 20)}, 0, names("", "a"), list(0))
}

// What is done with one answer is not seen in the next one, nor in what it was
// made of.
func TestDirsByTurns(t *testing.T) {
	fresh := func() impl.Fs {
		return tree(dir(entry("a", 1), entry("c", 2), entry("e", 1)), file(2, 9, 3, 4), dir(entry("x", 3)), file(1, 2, 7))
	}
	f := fresh()
	for range 2 {
		for _, r := range []impl.FsResult{impl.AddName(f, 0, "b", 1), impl.AddName(f, 0, "z", 2), impl.DropName(f, 0, "a"), impl.DropName(f, 0, "e"), impl.DropName(f, 0, "c"), impl.DropName(f, 2, "x")} {
			wantCode(t, "by turns", r.Code, impl.OK)
			for at, held := range r.Fs.Data {
				for i := range held {
					held[i]++
				}
				r.Fs.Data[at] = append(held, 'x')
			}
			for at, x := range r.Fs.Inodes {
				for i := range x.Entries {
					x.Entries[i] = entry("zz", 5)
				}
				_ = append(x.Entries, entry("zzz", 6))
				r.Fs.Inodes[at] = kind(0)
			}
		}
		told := impl.NamesIn(f, 0)
		wantNames(t, "by turns", told, names("a", "c", "e"))
		told.Names[0] = "x"
		_ = append(told.Names[:1], "y")
		if !same(f, fresh()) {
			t.Error(f)
		}
		checkNameAdded(t, "by turns", f, 0, "b", 1)
		checkNameDropped(t, "by turns", f, 2, "x")
	}
}
