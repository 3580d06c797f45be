package tests

import (
	"math"
	"slices"
	"strings"
	"testing"

	"loop.example/g00295/impl"
)

// checkImageCalls and checkDiskCalls ask all functions of chapter 12 for
// promise 1.
func checkImageCalls(t *testing.T, what string, f impl.Fs) {
	t.Helper()
	checkCall(t, what+": InodePuts", impl.InodePuts, f)
	checkCall(t, what+": DataPuts", impl.DataPuts, f)
	checkCall(t, what+": BusyOf", impl.BusyOf, f)
}

func checkDiskCalls(t *testing.T, what string, d impl.Disk, lists ...[]impl.Put) {
	t.Helper()
	checkCall(t, what+": LoadImage", impl.LoadImage, d)
	checkCall(t, what+": SeqOf", impl.SeqOf, d)
	for _, all := range append(lists, nil, puts()) {
		checkCall(t, what+": ChangedPuts", impl.ChangedPuts, d, all)
	}
}

// roomyPuts have room behind their ends, and share memory.
func roomyPuts() []impl.Put {
	words := list(1, 2, 3, 4, 5, 6, 7, 8)
	all := puts(impl.Put{At: 0, Words: words[:2]}, impl.Put{At: 1, Words: words[1:3]}, impl.Put{At: 1, Words: words[:0]}, impl.Put{At: 0, Words: words[:2]}, impl.Put{At: 99, Words: words})
	return all[:4]
}

func TestImagesPromiseOne(t *testing.T) {
	for i, f := range memoryTrees() {
		checkImageCalls(t, "a tree", f)
		if len(f.Inodes) <= 10 {
			checkDiskCalls(t, "its image", imageDisk(5, f))
		}
		if t.Failed() {
			t.Fatal("at file system ", i)
		}
	}
	for _, c := range imageTrees() {
		checkImageCalls(t, c.what, c.fs)
		both := slices.Concat(impl.InodePuts(c.fs).Puts, impl.DataPuts(c.fs).Puts)
		checkDiskCalls(t, c.what, imageDisk(5, c.fs), both)
		checkDiskCalls(t, c.what+", in Cache", putAll(t, formatted(t, 5), both, false), both, both[:3])
	}
	for _, c := range memoryDisks() {
		checkDiskCalls(t, c.what, c.disk, roomyPuts(), c.disk.Cache, puts(putOf(-1)), emptyPuts(61))
	}
	for _, c := range diskTurns() {
		d := imageDisk(5, turnedTree())
		c.do(&d)
		checkDiskCalls(t, c.what, d, roomyPuts())
	}
}

func TestImagesAtFarArguments(t *testing.T) {
	far := list(math.MinInt64, math.MinInt64+1, -1<<32, -1, 0, 1, 2, 59999, 60000, 60001, 1<<32, 1<<32+1, math.MaxInt64-1, math.MaxInt64)
	for _, seq := range far {
		checkCall(t, "FormatDisk", impl.FormatDisk, seq)
		d := formatted(t, 5)
		d.Blocks[0] = list(7, seq)
		checkDiskCalls(t, "a number", d)
		d.Blocks[0] = list(seq, 7)
		checkDiskCalls(t, "a first word", d)
		checkDiskCalls(t, "a put", formatted(t, 5), puts(putOf(seq, seq), putOf(0, seq)), puts(putOf(0, seq), putOf(17, seq, seq)))
		d = formatted(t, 5)
		d.Blocks[17] = list(2, 0, 0, seq)
		checkDiskCalls(t, "an inode", d)
		d.Blocks[17] = list(1, seq, seq, seq)
		checkDiskCalls(t, "a file", d)
		d.Cache = puts(putOf(seq, 1), putOf(0, seq))
		checkDiskCalls(t, "a cache", d, d.Cache)
	}
	for _, f := range []impl.Fs{{}, {Inodes: inodes(), Data: [][]byte{}}, {Data: emptyData(20)}, {Data: emptyData(3000)},
		{Inodes: inodes(impl.Inode{Kind: impl.KindDir, Blocks: []int64{}, Entries: []impl.Entry{}}), Data: emptyData(20)},
		tree(append(inodes(dir()), alike(3000, kind(0))...)...)} {
		checkImageCalls(t, "far", f)
	}
	checkDiskCalls(t, "nothing", impl.Disk{}, emptyPuts(3000))
	checkDiskCalls(t, "empty lists", impl.Disk{Blocks: [][]int64{}, Cache: puts()})
	checkDiskCalls(t, "empty blocks", impl.Disk{Blocks: emptyBlocks(47)}, emptyPuts(60))
	checkDiskCalls(t, "many words", impl.Disk{Blocks: [][]int64{fill(70000, 7)}}, puts(impl.Put{Words: fill(70000, 7)}))
}

// Nil and empty lists are the same value, in what is asked and in what is
// answered.
func TestImagesOfEmptyLists(t *testing.T) {
	d := formatted(t, 5)
	for at := range d.Blocks {
		if len(d.Blocks[at]) == 0 {
			d.Blocks[at] = []int64{}
		}
	}
	d.Cache = puts()
	wantNumber(t, "empty blocks", impl.SeqOf(d), 5)
	wantFs(t, "empty blocks", impl.LoadImage(d), tree(dir()))
	for at := range int64(47) {
		for _, words := range [][]int64{nil, {}} {
			want := puts(putOf(at))
			if at != 0 && at != 17 {
				want = nil
			}
			wantPuts(t, "no words", impl.ChangedPuts(d, puts(impl.Put{At: at, Words: words})), want)
			wantPuts(t, "no words", impl.ChangedPuts(formatted(t, 5), puts(impl.Put{At: at, Words: words})), want)
		}
	}
	f := impl.Fs{Inodes: inodes(impl.Inode{Kind: 2, Blocks: []int64{}, Entries: []impl.Entry{entry("a", 1)}}, impl.Inode{Kind: 1, Links: 1, Blocks: []int64{}, Entries: []impl.Entry{}}), Data: emptyData(20)}
	checkImage(t, "empty lists", f)
}

// Names, bytes and words that are pieces of one memory; what is told is none of
// it.
func TestImagesThatShare(t *testing.T) {
	text := strings.Clone("abcdefgh")
	long := []byte("abcdefghijkl")
	f := tree(dir(entry(text[:4], 1), entry(text[4:], 2)), file(1, 8, 3), file(1, 8, 4))
	f.Data[3], f.Data[4] = long[:8], long[1:9]
	checkImageCalls(t, "pieces", f)
	checkImage(t, "pieces", f)
	words := list(2, 0, 0, 0, 0, 0)
	d := formatted(t, 5)
	for at := 17; at < 27; at++ {
		d.Blocks[at] = words[1:4]
	}
	d.Blocks[17] = words[:4]
	checkDiskCalls(t, "pieces", d, puts(impl.Put{At: 17, Words: words[:4]}, impl.Put{At: 18, Words: words[:4]}, impl.Put{At: 19, Words: words[1:4]}))
	wantFs(t, "pieces", impl.LoadImage(d), tree(append(inodes(dir()), alike(9, kind(0))...)...))

	all := impl.ChangedPuts(formatted(t, 5), puts(impl.Put{At: 3, Words: words[:2]}, impl.Put{At: 4, Words: words[:2]})).Puts
	_ = append(all[0].Words, 77)
	all[0].Words[0] = 78
	if !same(all[1], putOf(4, 2, 0)) || !same(words, list(2, 0, 0, 0, 0, 0)) {
		t.Errorf("two puts share: %v, %v", all, words)
	}
}

// What stands in the room behind the ends of lists is neither put nor loaded.
func TestImagesDoNotSeeRoom(t *testing.T) {
	room := []impl.Entry{entry("a", 1), entry("b", 2), entry("c", 3)}
	f := tree(dir(room[:2]...), file(1, 9, 3, 4), dir(), file(1, 8, 5), dir())
	f.Inodes = f.Inodes[:3]
	f.Data[5] = f.Data[5][:0]
	f.Data[4] = append(make([]byte, 0, 20), 'n', 'x', 'x')[:1]
	checkImageCalls(t, "room", f)
	checkImage(t, "room", f)
	d := imageDisk(5, f)
	d.Blocks = append(d.Blocks, list(1))[:47]
	d.Blocks[20] = list(2, 0, 0, 0)[:0]
	d.Blocks[0] = list(7, 5, 3)[:2]
	d.Cache = puts(putOf(17, 9))[:0]
	wantFs(t, "room", impl.LoadImage(d), f)
	wantNumber(t, "room", impl.SeqOf(d), 5)
	d.Blocks[31] = list(1, 2)[:0]
	wantNoFs(t, "a byte in the room", impl.LoadImage(d), impl.ErrText)
}

// What is done with one answer is not seen in the next one.
func TestImagesByTurns(t *testing.T) {
	f := turnedTree()
	d := imageDisk(5, f)
	for range 2 {
		wantFs(t, "by turns", impl.LoadImage(d), turnedTree())
		loaded := impl.LoadImage(d).Fs
		loaded.Inodes[0].Entries[0].Name, loaded.Inodes[1].Blocks[0], loaded.Data[8][0] = "x", 0, 'X'
		_ = append(loaded.Inodes[:1], dir())
		put0 := impl.InodePuts(f).Puts
		wantPuts(t, "by turns", impl.PutsResult{Puts: put0}, modelInodePuts(turnedTree()))
		for i := range put0 {
			put0[i].Words = append(put0[i].Words[:0], 9, 9)
		}
		busy := impl.BusyOf(f).List
		wantWords(t, "by turns", impl.BusyOf(f), list(5, 6, 7, 8))
		busy[0] = 0
		fresh := formatted(t, 5)
		wantFs(t, "by turns", impl.LoadImage(fresh), tree(dir()))
		fresh.Blocks[17][0], fresh.Blocks[0][1] = 1, 0
		fresh.Blocks[18] = append(fresh.Blocks[18], 3)
	}
	if !same(f, turnedTree()) || !same(d, imageDisk(5, turnedTree())) {
		t.Error("arguments are changed")
	}
}
