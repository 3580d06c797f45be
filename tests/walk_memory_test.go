package tests

import (
	"math"
	"strings"
	"testing"

	"loop.example/g00295/impl"
)

// checkWayCalls asks all functions of chapter 9 for promise 1.
func checkWayCalls(t *testing.T, f impl.Fs, paths []string, places []int64) {
	t.Helper()
	checkCall(t, "PathsOf", impl.PathsOf, f)
	for _, path := range paths {
		checkCall(t, "WalkPath", impl.WalkPath, f, path)
		checkCall(t, "WalkParent", impl.WalkParent, f, path)
		checkCall(t, "StatOf", impl.StatOf, f, path)
	}
	for _, at := range places {
		for _, top := range places {
			checkCall(t, "IsWithin", impl.IsWithin, f, at, top)
		}
	}
}

// File systems whose lists have room behind their ends, share memory, are nil,
// or have faults.
func TestWaysPromiseOne(t *testing.T) {
	paths := names("/", "/a", "/a/b", "/a/a/a", "/b/x", "/x/y", "", "a", "/a/", "/A", "/abcde", "/a/b/c/d/e/f/g")
	for i, f := range memoryTrees() {
		checkWayCalls(t, f, paths, list(-1, 0, 1, 2, int64(len(f.Inodes))))
		if t.Failed() {
			t.Fatal("at file system ", i)
		}
	}
	for _, c := range walkTrees() {
		checkWayCalls(t, c.fs, append(c.paths[:len(c.paths):len(c.paths)], paths...), upTo(11))
	}
}

// Texts that are paths, and such as are not, the longest among them.
func TestWaysOfAllTexts(t *testing.T) {
	for _, text := range memoryTexts() {
		for _, f := range []impl.Fs{ladder("a", dir()), mostPaths().fs, {}} {
			checkWayCalls(t, f, names(text), nil)
		}
	}
}

// The path is a piece of the same text as the names of the file system, and
// what is told is no piece of these.
func TestWaysThatShare(t *testing.T) {
	text := strings.Clone("/abcd/efgh/ab")
	f := tree(dir(entry(text[1:5], 1)), dir(entry(text[11:13], 2), entry(text[6:10], 2)), file(2, 9, 3, 4))
	checkWayCalls(t, f, names(text[:1], text[:5], text[:10], text[:13], text[5:10], text[1:5], text[10:13]), upTo(4))
	wantNames(t, "names that share", impl.PathsOf(f), names("/abcd", "/abcd/ab", "/abcd/efgh"))
	wantNumber(t, "a path that shares", impl.WalkPath(f, text[:10]), 2)
}

// Entries and inodes have room behind their ends, and what stands there leads
// nowhere.
func TestWaysDoNotSeeRoom(t *testing.T) {
	room := []impl.Entry{entry("a", 1), entry("b", 2), entry("c", 3), entry("d", 4)}
	f := tree(dir(room[:2]...), file(1, 9, 3, 4), dir(), file(1, 0), dir())
	f.Inodes = f.Inodes[:3]
	checkWayCalls(t, f, names("/", "/a", "/b", "/c", "/d", "/c/x", "/d/x"), upTo(6))
	wantNames(t, "room behind", impl.PathsOf(f), names("/a", "/b"))
	wantNoNumber(t, "a name in the room", impl.WalkPath(f, "/c"), impl.ErrNone)
	if impl.IsWithin(f, 3, 0) || impl.IsWithin(f, 4, 4) {
		t.Error("IsWithin of what stands in the room")
	}
}

func TestWaysAtFarArguments(t *testing.T) {
	far := list(math.MinInt64, math.MinInt64+1, -1<<62, -1<<32, -1, 0, 2, 3, 1<<31, 1<<32, 1<<32+1, 1<<62, math.MaxInt64-1, math.MaxInt64)
	f := tree(dir(entry("a", 1), entry("b", 2)), file(1, 9, 3, 4), dir())
	checkWayCalls(t, f, names(strings.Repeat("/a", 50000), strings.Repeat("/", 100000), strings.Repeat("a", 100000), "\x00", "/\x00", "/é"), far)
	paths := names("", "/", "/a", "a")
	checkWayCalls(t, impl.Fs{}, paths, far)
	checkWayCalls(t, impl.Fs{Inodes: inodes(), Data: [][]byte{}}, paths, far)
	checkWayCalls(t, impl.Fs{Inodes: inodes(impl.Inode{Kind: impl.KindDir, Blocks: []int64{}, Entries: []impl.Entry{}}), Data: emptyData(20)}, paths, far)
}

// What is done with one answer is not seen in the next one.
func TestWaysByTurns(t *testing.T) {
	c := mostPaths()
	for range 2 {
		told := impl.PathsOf(c.fs)
		wantNames(t, "by turns", told, c.paths)
		for i := range told.Names {
			told.Names[i] = "x"
		}
		_ = append(told.Names[:1], "y")
		wantNumber(t, "by turns", impl.WalkPath(c.fs, "/a/b/c"), 9)
		if !same(c.fs, mostPaths().fs) {
			t.Error(c.fs)
		}
	}
}
