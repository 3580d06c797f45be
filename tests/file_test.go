package tests

import (
	"bytes"
	"fmt"
	"slices"
	"testing"

	"loop.example/g00295/impl"
)

// The names and signatures of chapter 7, as the document has them.
var (
	_ func(impl.Fs, int64, int64, int64) impl.BytesResult        = impl.ReadFile
	_ func(impl.Fs, int64, []byte, []int64) impl.FsResult        = impl.SetBytes
	_ func(impl.Fs, int64, int64, []byte, []int64) impl.FsResult = impl.WriteFile
	_ func(impl.Fs, int64, int64, []int64) impl.FsResult         = impl.CutFile
	_ func(impl.Fs, int64) impl.FsResult                         = impl.DropFile
)

// fileSizes are those of a file that the document's bounds make special.
func fileSizes() []int64 {
	return list(0, 1, 7, 8, 9, 32)
}

type fileTree struct {
	what string
	fs   impl.Fs
}

// sizedTrees have a file of each of fileSizes, one beside another file, one in
// a directory, one with three names, and one at the last place.
func sizedTrees() []fileTree {
	var all []fileTree
	for _, size := range fileSizes() {
		blocks := list(12, 3, 19, 0)[:(size+7)/8]
		beside := inodes(dir(entry("a", 1), entry("b", 2)), file(1, size, blocks...), file(1, 10, 7, 1))
		below := inodes(dir(entry("a", 2)), file(1, size, blocks...), dir(entry("b", 1), entry("c", 3)), file(1, 3, 2))
		twice := inodes(dir(entry("a", 1), entry("b", 2), entry("c", 2)), dir(entry("a", 2)), file(3, size, blocks...), kind(0))
		last := append(append(inodes(dir(entry("a", 9), entry("b", 8))), alike(7, kind(0))...), file(1, 8, 1), file(1, size, blocks...))
		told := fmt.Sprint(size, " bytes ")
		all = append(all, fileTree{told + "beside another", tree(beside...)}, fileTree{told + "in a directory", tree(below...)},
			fileTree{told + "with three names", tree(twice...)}, fileTree{told + "at the last place", tree(last...)})
	}
	return all
}

// fileTrees are all of these, and all whole trees of chapter 6.
func fileTrees() []fileTree {
	all := sizedTrees()
	for _, c := range wholeTrees() {
		all = append(all, fileTree{c.what, c.fs})
	}
	return all
}

func filesIn(f impl.Fs) []int64 {
	var files []int64
	for at, x := range f.Inodes {
		if x.Kind == impl.KindFile {
			files = append(files, int64(at))
		}
	}
	return files
}

// freshText is n bytes that are in no tree, and none of which is 0.
func freshText(n int64) []byte {
	text := make([]byte, n)
	for i := range text {
		text[i] = byte(200 + i)
	}
	return text
}

// piece is the bytes of a text that its block of this number has.
func piece(text []byte, number int) []byte {
	return text[number*8 : min(number*8+8, len(text))]
}

// freshBlocks is the first blocks that are of no file and not busy, as many as
// this text takes, or false where they are too few.
func freshBlocks(f impl.Fs, text []byte, busy []int64) ([]int64, bool) {
	used, _ := modelUsed(f.Inodes)
	free := without(append(used, busy...)...)
	need := (len(text) + 7) / 8
	if need > len(free) {
		return nil, false
	}
	return free[:need], true
}

// checkSet asks for all of promise 8 where a file was given a text: it has the
// text, in new blocks, and nothing else turned.
func checkSet(t *testing.T, what string, f impl.Fs, at int64, text []byte, busy []int64, r impl.FsResult) {
	t.Helper()
	blocks, room := freshBlocks(f, text, busy)
	if !room {
		wantNoFs(t, what, r, impl.ErrFull)
		return
	}
	if r.Code != impl.OK || impl.FsFault(r.Fs) != impl.OK {
		t.Errorf("%s: code %d, and a fault %d: %v", what, r.Code, impl.FsFault(r.Fs), r.Fs)
		return
	}
	if !bytes.Equal(impl.BytesIn(r.Fs, at).Bytes, text) {
		t.Errorf("%s: it has %q, not %q", what, impl.BytesIn(r.Fs, at).Bytes, text)
	}
	checkOthers(t, what, f, r.Fs, at)
	old, now := f.Inodes[at], r.Fs.Inodes[at]
	if !impl.SameInodes(now, impl.Inode{Kind: impl.KindFile, Links: old.Links, Size: int64(len(text)), Blocks: blocks}) {
		t.Errorf("%s: its inode was %v, and is %v, not in blocks %v", what, old, now, blocks)
	}
	for block, held := range r.Fs.Data {
		want := f.Data[block]
		if slices.Contains(old.Blocks, int64(block)) {
			want = nil
		} else if number := slices.Index(blocks, int64(block)); number >= 0 {
			want = piece(text, number)
		}
		if !bytes.Equal(held, want) {
			t.Errorf("%s: block %d has %q, not %q", what, block, held, want)
		}
	}
}

// checkOthers: all inodes but one are as they were, and so are the bytes of
// all files but that one.
func checkOthers(t *testing.T, what string, before, after impl.Fs, at int64) {
	t.Helper()
	if len(after.Inodes) != len(before.Inodes) || len(after.Data) != 20 {
		t.Fatalf("%s: %d inodes are %d, with %d blocks", what, len(before.Inodes), len(after.Inodes), len(after.Data))
	}
	for other, x := range before.Inodes {
		if int64(other) == at {
			continue
		}
		if !impl.SameInodes(after.Inodes[other], x) {
			t.Errorf("%s: inode %d was %v, and is %v", what, other, x, after.Inodes[other])
		}
		for _, block := range x.Blocks {
			if !bytes.Equal(after.Data[block], before.Data[block]) {
				t.Errorf("%s: block %d of inode %d was %q, and is %q", what, block, other, before.Data[block], after.Data[block])
			}
		}
	}
}

func wantBytes(t *testing.T, what string, r impl.BytesResult, want []byte) {
	t.Helper()
	if r.Code != impl.OK || !bytes.Equal(r.Bytes, want) {
		t.Errorf("%s: %v, not %v", what, r, want)
	}
}

func wantNoFs(t *testing.T, what string, r impl.FsResult, code int64) {
	t.Helper()
	if !same(r, impl.FsResult{Code: code}) {
		t.Errorf("%s: %v, not code %d alone", what, r, code)
	}
}

// One file system, turned step by step; all that comes of it is written by
// hand.
func TestFilesByHand(t *testing.T) {
	f := tree(dir(entry("a", 1), entry("b", 2)), file(1, 9, 7, 3), file(1, 2, 0))
	want := func(what string, r impl.FsResult, x impl.Inode, held map[int64]string) {
		t.Helper()
		next := impl.Fs{Inodes: inodes(dir(entry("a", 1), entry("b", 2)), x, file(1, 2, 0)), Data: make([][]byte, 20)}
		next.Data[0] = []byte("kl")
		for block, text := range held {
			next.Data[block] = []byte(text)
		}
		if !same(r, impl.FsResult{Fs: next}) {
			t.Errorf("%s: %v, not %v", what, r, next)
		}
		f = next
	}
	wantBytes(t, "ahead of all", impl.ReadFile(f, 1, 0, 100), []byte("fghijklmn"))
	want("written over the end", impl.WriteFile(f, 1, 8, []byte("XYZ"), list(2)), file(1, 11, 1, 4), map[int64]string{1: "fghijklm", 4: "XYZ"})
	want("written in the middle", impl.WriteFile(f, 1, 7, []byte("12"), nil), file(1, 11, 2, 3), map[int64]string{2: "fghijkl1", 3: "2YZ"})
	want("written beyond the end", impl.WriteFile(f, 1, 14, []byte("!"), list(19, 1)), file(1, 15, 4, 5), map[int64]string{4: "fghijkl1", 5: "2YZ\x00\x00\x00!"})
	want("cut", impl.CutFile(f, 1, 3, list(4)), file(1, 3, 1), map[int64]string{1: "fgh"})
	want("cut to as long as it is", impl.CutFile(f, 1, 3, nil), file(1, 3, 2), map[int64]string{2: "fgh"})
	want("cut to be longer", impl.CutFile(f, 1, 9, nil), file(1, 9, 1, 3), map[int64]string{1: "fgh\x00\x00\x00\x00\x00", 3: "\x00"})
	want("given bytes", impl.SetBytes(f, 1, []byte("hello"), list(2, 4, 5)), file(1, 5, 6), map[int64]string{6: "hello"})
	want("written nothing", impl.WriteFile(f, 1, 32, nil, list(6)), file(1, 5, 6), map[int64]string{6: "hello"})
	want("given nothing", impl.SetBytes(f, 1, nil, nil), file(1, 0), nil)
	want("written beyond the end of nothing", impl.WriteFile(f, 1, 2, []byte("hello"), nil), file(1, 7, 1), map[int64]string{1: "\x00\x00hello"})
	want("dropped", impl.DropFile(f, 1), kind(0), nil)
	wantNoFs(t, "dropped again: an entry leads to what is free", impl.DropFile(f, 1), impl.ErrNone)
}

// Each place and each length that a file has room for, in files of each size.
func TestWhatIsWrittenIsRead(t *testing.T) {
	for _, c := range sizedTrees() {
		for _, at := range filesIn(c.fs) {
			for from := range int64(33) {
				for n := int64(1); from+n < 33; n++ {
					checkWrite(t, c.what, c.fs, at, from, freshText(n), nil)
				}
			}
		}
		if t.Failed() {
			t.FailNow()
		}
	}
}

// checkWrite writes, and asks for promise 8.
func checkWrite(t *testing.T, what string, f impl.Fs, at, from int64, data []byte, busy []int64) {
	t.Helper()
	old := impl.BytesIn(f, at).Bytes
	end, size := from+int64(len(data)), int64(len(old))
	told := fmt.Sprintf("%s: WriteFile %d from %d, %d bytes, busy %v", what, at, from, len(data), busy)
	r := impl.WriteFile(f, at, from, data, busy)
	if r.Code == impl.ErrFull {
		checkSet(t, told, f, at, make([]byte, max(end, size)), busy, r)
		return
	}
	wantBytes(t, told+", read again", impl.ReadFile(r.Fs, at, from, int64(len(data))), data)
	ahead := append(slices.Clone(old[:min(from, size)]), make([]byte, max(0, from-size))...)
	wantBytes(t, told+", ahead of it", impl.ReadFile(r.Fs, at, 0, from), ahead)
	behind := old[min(end, size):]
	wantBytes(t, told+", behind it", impl.ReadFile(r.Fs, at, end, 100), behind)
	checkSet(t, told, f, at, slices.Concat(ahead, data, behind), busy, r)
}

// checkCut cuts, and asks for promise 8.
func checkCut(t *testing.T, what string, f impl.Fs, at, size int64, busy []int64) {
	t.Helper()
	old := impl.BytesIn(f, at).Bytes
	text := append(slices.Clone(old), make([]byte, 32)...)[:size]
	told := fmt.Sprintf("%s: CutFile %d of %d bytes to %d, busy %v", what, at, len(old), size, busy)
	checkSet(t, told, f, at, text, busy, impl.CutFile(f, at, size, busy))
}

func checkSetBytes(t *testing.T, what string, f impl.Fs, at int64, text []byte, busy []int64) {
	t.Helper()
	told := fmt.Sprintf("%s: SetBytes %d, %d bytes, busy %v", what, at, len(text), busy)
	checkSet(t, told, f, at, text, busy, impl.SetBytes(f, at, text, busy))
}

// Each length that a file can be given and be cut to.
func TestEachLength(t *testing.T) {
	for _, c := range fileTrees() {
		wantCode(t, c.what, impl.FsFault(c.fs), impl.OK)
		for _, at := range filesIn(c.fs) {
			for size := range int64(33) {
				checkSetBytes(t, c.what, c.fs, at, freshText(size), nil)
				checkCut(t, c.what, c.fs, at, size, nil)
			}
		}
	}
}

// All that is written, in each file, beside each list of busy blocks, among
// them the file's own, those of all files, and all others.
func TestFilesBesideBusy(t *testing.T) {
	for _, c := range fileTrees() {
		used, _ := modelUsed(c.fs.Inodes)
		lists := append(soundBusy(), busyCase{"the used ones", used}, busyCase{"all others", without(used...)})
		for _, at := range filesIn(c.fs) {
			own := c.fs.Inodes[at].Blocks
			for _, b := range append(lists, busyCase{"its own", own}, busyCase{"all but its own", without(own...)}) {
				what := c.what + ", " + b.what
				for _, size := range fileSizes() {
					checkSetBytes(t, what, c.fs, at, freshText(size), b.busy)
					checkCut(t, what, c.fs, at, size, b.busy)
				}
				for _, from := range list(0, 3, 8, 15, 24, 31) {
					checkWrite(t, what, c.fs, at, from, freshText(1), b.busy)
					checkWrite(t, what, c.fs, at, from, freshText(32-from), b.busy)
				}
				checkNothingWritten(t, what, c.fs, at, b.busy)
			}
		}
		if t.Failed() {
			t.FailNow()
		}
	}
}

// With empty data nothing changes, even where no block is free, wherever it
// would have been written.
func checkNothingWritten(t *testing.T, what string, f impl.Fs, at int64, busy []int64) {
	t.Helper()
	for from := range int64(33) {
		for _, data := range [][]byte{nil, {}} {
			r := impl.WriteFile(f, at, from, data, busy)
			if r.Code != impl.OK || !impl.SameFs(r.Fs, f) {
				t.Errorf("%s: WriteFile %d of nothing from %d, busy %v: %v, not %v", what, at, from, busy, r, f)
			}
		}
	}
}

// What is busy does not turn, whatever is written: the file that is written
// again and again goes by, and so does one that is dropped.
func TestNoBusyByteTurns(t *testing.T) {
	kept := tree(dir(entry("a", 1), entry("b", 2), entry("c", 3)), file(1, 17, 4, 0, 9), file(1, 8, 1), file(1, 0))
	busy, _ := modelUsed(kept.Inodes)
	live := kept
	for n := range int64(33) {
		r := impl.SetBytes(live, 3, freshText(n), busy)
		wantCode(t, "SetBytes", r.Code, impl.OK)
		live = r.Fs
		for _, block := range busy {
			if !bytes.Equal(live.Data[block], kept.Data[block]) || slices.Contains(live.Inodes[3].Blocks, block) {
				t.Errorf("%d bytes: block %d has %q, and the file is in %v", n, block, live.Data[block], live.Inodes[3].Blocks)
			}
		}
	}
	r := impl.DropFile(live, 3)
	for _, block := range busy {
		if !bytes.Equal(r.Fs.Data[block], kept.Data[block]) {
			t.Errorf("dropped: block %d has %q", block, r.Fs.Data[block])
		}
	}
}

func TestWhatIsDropped(t *testing.T) {
	for _, c := range fileTrees() {
		for _, at := range filesIn(c.fs) {
			what := fmt.Sprint(c.what, ": DropFile ", at)
			r := impl.DropFile(c.fs, at)
			wantCode(t, what, r.Code, impl.OK)
			checkOthers(t, what, c.fs, r.Fs, at)
			if !impl.SameInodes(r.Fs.Inodes[at], kind(0)) {
				t.Errorf("%s: it is not free: %v", what, r.Fs.Inodes[at])
			}
			for block, held := range r.Fs.Data {
				if slices.Contains(c.fs.Inodes[at].Blocks, int64(block)) {
					wantBytes(t, what, impl.BytesResult{Bytes: held}, nil)
				} else {
					wantBytes(t, what, impl.BytesResult{Bytes: held}, c.fs.Data[block])
				}
			}
			// Its names lead to what is free, and without them it is whole.
			wantCode(t, what+": FsFault", impl.FsFault(r.Fs), impl.ErrNone)
			for i, x := range r.Fs.Inodes {
				r.Fs.Inodes[i].Entries = slices.DeleteFunc(x.Entries, func(e impl.Entry) bool { return e.Inode == at })
			}
			wantCode(t, what+", its names gone: FsFault", impl.FsFault(r.Fs), impl.OK)
		}
	}
}

func TestReadEachPart(t *testing.T) {
	for _, c := range fileTrees() {
		for _, at := range filesIn(c.fs) {
			text := textOf(int(at), c.fs.Inodes[at].Size)
			size := int64(len(text))
			for _, from := range append(upTo(36), 99, 100, 999, 1000) {
				for _, n := range append(upTo(36), 99, 100) {
					want := text[min(from, size):min(from+n, size)]
					wantBytes(t, fmt.Sprint(c.what, ": ReadFile ", at, " from ", from, ", ", n), impl.ReadFile(c.fs, at, from, n), want)
				}
			}
		}
	}
}

// What is read in two parts is what is read in one, at the edges of blocks, of
// the file, and of what may be asked for.
func TestReadInTwoParts(t *testing.T) {
	for _, c := range sizedTrees() {
		for _, at := range filesIn(c.fs) {
			for _, from := range list(0, 1, 7, 8, 9, 16, 31, 32, 33, 900, 1000) {
				for _, a := range append(upTo(18), 31, 32, 33, 50, 99, 100) {
					for _, b := range list(0, 1, 7, 8, 9, 23, 32, 33, 50) {
						if from+a > 1000 || a+b > 100 {
							continue
						}
						one := impl.ReadFile(c.fs, at, from, a+b)
						first, second := impl.ReadFile(c.fs, at, from, a), impl.ReadFile(c.fs, at, from+a, b)
						wantCode(t, "first", first.Code, impl.OK)
						wantCode(t, "second", second.Code, impl.OK)
						wantBytes(t, fmt.Sprint(c.what, ": from ", from, ", ", a, " and ", b), one, slices.Concat(first.Bytes, second.Bytes))
					}
				}
			}
		}
	}
}

// Bytes are any bytes, each of them at each place.
func TestEachByteIsWritten(t *testing.T) {
	f := tree(dir(entry("a", 1)), file(1, 12, 3, 4))
	for b := range 256 {
		for from := range int64(20) {
			checkWrite(t, fmt.Sprint("byte ", b), f, 1, from, []byte{byte(b), byte(255 - b)}, nil)
		}
		text := bytes.Repeat([]byte{byte(b)}, 32)
		checkSetBytes(t, fmt.Sprint("byte ", b), f, 1, text, list(0, 19))
		whole := impl.SetBytes(f, 1, text, nil).Fs
		checkCut(t, fmt.Sprint("byte ", b), whole, 1, 9, nil)
	}
}

// A file that has several names is one: what is written by one is read by all.
func TestFileOfTwoNames(t *testing.T) {
	f := tree(dir(entry("a", 1), entry("b", 2)), file(2, 9, 5, 6), dir(entry("a", 1)))
	r := impl.WriteFile(f, f.Inodes[0].Entries[0].Inode, 4, []byte("one"), nil)
	wantBytes(t, "by its other name", impl.ReadFile(r.Fs, r.Fs.Inodes[2].Entries[0].Inode, 0, 100), []byte("fghionemn"))
	if r.Fs.Inodes[1].Links != 2 {
		t.Error(r.Fs.Inodes[1])
	}
	wantCode(t, "FsFault", impl.FsFault(r.Fs), impl.OK)
}
