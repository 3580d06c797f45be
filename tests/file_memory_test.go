package tests

import (
	"math"
	"testing"

	"loop.example/g00295/impl"
)

// checkFileCalls asks all functions of chapter 7 for promise 1 at a place.
func checkFileCalls(t *testing.T, f impl.Fs, at int64, data [][]byte, busy [][]int64) {
	t.Helper()
	checkCall(t, "DropFile", impl.DropFile, f, at)
	for _, from := range list(-1, 0, 3, 8, 33, 1000, 1001) {
		checkCall(t, "ReadFile", impl.ReadFile, f, at, from, int64(100))
		checkCall(t, "ReadFile", impl.ReadFile, f, at, int64(1), from)
	}
	for _, b := range busy {
		for _, size := range list(-1, 0, 1, 8, 9, 32, 33) {
			checkCall(t, "CutFile", impl.CutFile, f, at, size, b)
		}
		for _, text := range data {
			checkCall(t, "SetBytes", impl.SetBytes, f, at, text, b)
			for _, from := range list(-1, 0, 12) {
				checkCall(t, "WriteFile", impl.WriteFile, f, at, from, text, b)
			}
		}
	}
}

// Data and busy blocks with room behind their ends, in all file systems whose
// lists have room, share memory, are nil, or have faults.
func TestFilesPromiseOne(t *testing.T) {
	long, room := freshText(70), append(upTo(20), 20, -1)
	data := [][]byte{nil, {}, long[:0], long[:1], long[:8], long[3:20], long[:33]}
	busy := [][]int64{nil, {}, room[:0], room[:3], room[5:19], room[:20], room[:21], room[19:]}
	for i, f := range memoryTrees() {
		for _, at := range list(-1, 0, 1, 2, int64(len(f.Inodes))) {
			checkFileCalls(t, f, at, data, busy)
		}
		if t.Failed() {
			t.Fatal("at file system ", i)
		}
	}
	for _, c := range sizedTrees() {
		for _, at := range filesIn(c.fs) {
			checkFileCalls(t, c.fs, at, data[2:5], busy[2:5])
		}
	}
}

// The file system's own lists are handed in as data and as busy blocks.
func TestFilesThatShare(t *testing.T) {
	f := tree(dir(entry("a", 1), entry("b", 2)), file(1, 20, 3, 4, 9), file(1, 8, 0))
	for at := range int64(3) {
		checkFileCalls(t, f, at, f.Data[:5], [][]int64{f.Inodes[1].Blocks, f.Inodes[2].Blocks, f.Inodes[1].Blocks[:2]})
	}
	r := impl.SetBytes(f, 1, f.Data[3], f.Inodes[1].Blocks)
	wantBytes(t, "its own first block", impl.BytesIn(r.Fs, 1), textOf(1, 8))
	r = impl.WriteFile(f, 1, 1, f.Data[3], f.Inodes[2].Blocks)
	want := append(textOf(1, 1), append(textOf(1, 8), textOf(1, 20)[9:]...)...)
	wantBytes(t, "its own first block, one behind where it was", impl.BytesIn(r.Fs, 1), want)
}

// Numbers from end to end.
func TestFilesAtFarNumbers(t *testing.T) {
	far := list(math.MinInt64, math.MinInt64+1, -1<<62, -1<<32, 1<<31, 1<<32, 1<<62, math.MaxInt64-8, math.MaxInt64)
	f := tree(dir(entry("a", 1)), file(1, 9, 3, 4))
	for _, a := range far {
		checkFileCalls(t, f, a, [][]byte{nil, freshText(3)}, [][]int64{nil, {a}, {3, a}})
		checkCall(t, "ReadFile", impl.ReadFile, f, int64(1), int64(0), a)
		checkCall(t, "CutFile", impl.CutFile, f, int64(1), a, list(0))
		for _, b := range far {
			checkCall(t, "ReadFile", impl.ReadFile, f, int64(1), a, b)
			checkCall(t, "WriteFile", impl.WriteFile, f, int64(1), a, freshText(40), list(b))
		}
		for _, text := range [][]byte{nil, freshText(1), freshText(40)} {
			checkCall(t, "WriteFile", impl.WriteFile, f, int64(1), a, text, list(0))
		}
	}
}

// What is done with one answer is not seen in the next one, nor in what it was
// made of.
func TestFilesByTurns(t *testing.T) {
	f := tree(dir(entry("a", 1), entry("b", 2)), file(1, 9, 3, 4), file(1, 2, 7))
	data, busy := freshText(10), list(0, 1)
	for range 2 {
		for _, r := range []impl.FsResult{impl.SetBytes(f, 1, data, busy), impl.WriteFile(f, 1, 9, data, busy), impl.WriteFile(f, 1, 9, nil, busy),
			impl.CutFile(f, 1, 10, busy), impl.DropFile(f, 1)} {
			wantCode(t, "by turns", r.Code, impl.OK)
			for at, held := range r.Fs.Data {
				for i := range held {
					held[i]++
				}
				r.Fs.Data[at] = append(held, 'x')
			}
			for at, x := range r.Fs.Inodes {
				for i := range x.Blocks {
					x.Blocks[i] = 19
				}
				for i := range x.Entries {
					x.Entries[i] = entry("zz", 5)
				}
				r.Fs.Inodes[at] = kind(0)
			}
		}
		if !impl.SameFs(f, tree(dir(entry("a", 1), entry("b", 2)), file(1, 9, 3, 4), file(1, 2, 7))) || !same(data, freshText(10)) || !same(busy, list(0, 1)) {
			t.Error(f, data, busy)
		}
		checkSetBytes(t, "by turns", f, 1, data, busy)
		checkWrite(t, "by turns", f, 1, 9, data, busy)
		checkCut(t, "by turns", f, 1, 10, busy)
		read := impl.ReadFile(f, 1, 1, 3)
		wantBytes(t, "by turns", read, textOf(1, 9)[1:4])
		read.Bytes[0]++
		_ = append(read.Bytes, 'x', 'y')
		checkNothingWritten(t, "by turns", f, 1, busy)
	}
}
