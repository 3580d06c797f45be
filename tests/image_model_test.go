package tests

import (
	"fmt"
	"slices"
	"testing"

	"loop.example/g00295/impl"
)

// modelSeq is SeqOf, told another way.
func modelSeq(d impl.Disk) impl.IntResult {
	if code := impl.DiskFault(d); code != impl.OK {
		return impl.IntResult{Code: code}
	}
	if len(d.Blocks) != 47 {
		return impl.IntResult{Code: impl.ErrForm}
	}
	first := standing(d, 0)
	if len(first) == 2 && same(first, list(7, min(max(first[1], 1), 60000))) {
		return impl.IntResult{Value: first[1]}
	}
	return impl.IntResult{Code: impl.ErrText}
}

// modelLoad is LoadImage, told another way: the bytes are gone for file by
// file, place by place, and inodes from the last one on.
func modelLoad(d impl.Disk) impl.FsResult {
	if seq := modelSeq(d); seq.Code != impl.OK {
		return impl.FsResult{Code: seq.Code}
	}
	f := impl.Fs{Data: make([][]byte, 20)}
	for at := int64(26); at >= 17; at-- {
		words := standing(d, at)
		read := impl.UnpackInode(words)
		if read.Code != impl.OK {
			return impl.FsResult{Code: impl.ErrText}
		}
		if len(words) > 0 || len(f.Inodes) > 0 {
			f.Inodes = slices.Insert(f.Inodes, 0, read.Inode)
		}
	}
	if code := modelReachCode(f); code != impl.OK {
		return impl.FsResult{Code: code}
	}
	for _, x := range f.Inodes {
		for place := range x.Size {
			block := x.Blocks[place/8]
			words := standing(d, 27+block)
			if place%8 >= int64(len(words)) || words[place%8] >= 256 {
				return impl.FsResult{Code: impl.ErrText}
			}
			f.Data[block] = append(f.Data[block], byte(words[place%8]))
		}
	}
	if code := modelTreeCode(f); code != impl.OK {
		return impl.FsResult{Code: code}
	}
	return impl.FsResult{Fs: f}
}

// checkLoad holds a disk against the model, and asks for the second half of
// promise 13: what is loaded is whole. What is whole is put again as it stands.
func checkLoad(t *testing.T, what string, d impl.Disk) int64 {
	t.Helper()
	if r := impl.SeqOf(d); r != modelSeq(d) {
		t.Fatalf("%s: SeqOf %v, not %v, of %v", what, r, modelSeq(d), d)
	}
	r, want := impl.LoadImage(d), modelLoad(d)
	if !same(r, want) {
		t.Fatalf("%s: LoadImage %v, not %v, of %v", what, r, want, d)
	}
	if r.Code != impl.OK {
		return r.Code
	}
	wantCode(t, what+": what is loaded", impl.FsFault(r.Fs), impl.OK)
	for _, p := range impl.ChangedPuts(d, impl.InodePuts(r.Fs).Puts).Puts {
		// Places without words ahead of the last one are free inodes now.
		if !same(p.Words, list(0, 0, 0)) || len(standing(d, p.At)) > 0 {
			t.Errorf("%s: %v is changed in what was loaded of %v", what, p, d)
		}
	}
	for _, p := range impl.DataPuts(r.Fs).Puts {
		if !same(p.Words, standing(d, p.At)[:len(p.Words)]) {
			t.Errorf("%s: %v was not loaded of %v", what, p, d)
		}
	}
	return r.Code
}

// diceBytes turns the bytes of a file system into any.
func diceBytes(x *dice, f impl.Fs) impl.Fs {
	for _, held := range f.Data {
		for i := range held {
			held[i] = byte(x.below(256))
		}
	}
	return f
}

func TestImagesByDice(t *testing.T) {
	x := dice(41)
	var files, several, below, empty, between int
	for range 700 {
		for _, f := range []impl.Fs{diceBytes(&x, shuffled(&x, diceTree(&x))), shuffled(&x, diceDeep(&x))} {
			checkImage(t, "by dice", f)
			for at, inode := range f.Inodes {
				files += int(min(inode.Size, 1))
				several += int(max(min(inode.Links, 2), 1) - 1)
				if inode.Kind == impl.KindDir && at > 0 && len(inode.Entries) > 0 {
					below++
				}
				if inode.Kind == impl.KindFile && inode.Size == 0 {
					empty++
				}
				if inode.Kind == impl.KindFree {
					between++
				}
			}
		}
		if t.Failed() {
			t.FailNow()
		}
	}
	if min(files, several, below, empty, between) < 300 {
		t.Errorf("too few of something: %d, %d, %d, %d, %d", files, several, below, empty, between)
	}
}

// Rows of calls: after each of them what is changed is put over what stands
// there, and it is loaded as it is.
func TestImagesBehindCalls(t *testing.T) {
	x := dice(42)
	for row := range 60 {
		f := diceStart(&x)
		d := formatted(t, 1+x.below(60000))
		seq := impl.SeqOf(d).Value
		for step := range 25 {
			what := fmt.Sprint("row ", row, ", step ", step)
			both := slices.Concat(impl.DataPuts(f).Puts, impl.InodePuts(f).Puts)
			d = putAll(t, d, impl.ChangedPuts(d, both).Puts, x.below(4) == 0)
			if len(d.Cache) > 100 || x.below(5) == 0 {
				d = flush(t, d)
			}
			wantFs(t, what, impl.LoadImage(d), f)
			wantPuts(t, what, impl.ChangedPuts(d, both), nil)
			wantNumber(t, what, impl.SeqOf(d), seq)
			var busy []int64
			if x.below(2) == 0 {
				busy = impl.BusyOf(f).List
			}
			f = impl.DoCall(f, diceCall(&x, modelPaths(f)), busy).Fs
		}
		if t.Failed() {
			t.FailNow()
		}
	}
}

// diceTurnDisk turns one thing of a disk, in Blocks or in Cache.
func diceTurnDisk(x *dice, d *impl.Disk) {
	at := []int64{0, 17 + x.below(10), 17 + x.below(4), 27 + x.below(20), x.below(47)}[min(x.below(40), 4)]
	if x.below(2) == 0 {
		at = 17 + x.below(30)
	}
	words := copyOfWords(standing(*d, at))
	n := int64(len(words))
	switch x.below(8) {
	case 0:
		words = append(words, x.below(3))
	case 1:
		words = words[:max(n-1, 0)]
	case 2:
		words = nil
	case 3:
		words = list(0, 0, 0)
	case 4:
		words = copyOfWords(standing(*d, 17+x.below(30)))
	case 5:
		words = append(copyOfWords(words), list(255, 256, 65535, 0)[x.below(4)])
	default:
		if n > 0 {
			words[x.below(n)] = []int64{x.below(3), x.below(10), x.below(20), 97 + x.below(4), 255, 256, 65535}[x.below(7)]
		}
	}
	if x.below(300) == 0 {
		words = append(words, 65536)
	}
	if x.below(2) == 0 {
		d.Cache = append(d.Cache, impl.Put{At: at, Words: words})
	} else {
		d.Blocks[at] = words
	}
}

// wantCounts: each of these codes came often enough to say something.
func wantCounts(t *testing.T, count [11]int, codes ...int64) {
	t.Helper()
	for _, code := range codes {
		if count[code] < 50 {
			t.Errorf("code %d came too seldom: %v", code, count)
		}
	}
}

// Whatever stands on a disk: images of which something is turned, again and
// again.
func TestDisksAgainstModel(t *testing.T) {
	x := dice(43)
	var count [11]int
	for range 4000 {
		f := diceBytes(&x, shuffled(&x, diceTree(&x)))
		d := imageDisk(1+x.below(60000), f)
		for range 1 + x.below(6) {
			diceTurnDisk(&x, &d)
			count[checkLoad(t, "turned", d)]++
		}
	}
	wantCounts(t, count, impl.OK, impl.ErrForm, impl.ErrRange, impl.ErrNone, impl.ErrText, impl.ErrTaken)
}

// File systems of which something is turned, as they would stand on a disk.
func TestImagesOfWhatIsNotWhole(t *testing.T) {
	x := dice(44)
	var count [11]int
	for range 4000 {
		f := shuffled(&x, diceTree(&x))
		for range 1 + x.below(3) {
			diceFault(&x, &f)
			if len(f.Inodes) <= 10 {
				count[checkLoad(t, "not whole", imageDisk(5, f))]++
			}
		}
	}
	wantCounts(t, count, impl.OK, impl.ErrForm, impl.ErrNone, impl.ErrText, impl.ErrTaken)
}

// Disks of inodes by dice, which know nothing of each other.
func TestDisksOfAnyInodes(t *testing.T) {
	x := dice(45)
	var count [11]int
	for range 20000 {
		d := impl.Disk{Blocks: emptyBlocks(47)}
		d.Blocks[0] = list(7, 1+x.below(3))
		for at := 17; at < 17+int(1+x.below(10)); at++ {
			some := inodes(dir(), kind(0), dir(entry("a", x.below(4))), file(1+x.below(2), 0), file(1, 1, x.below(3)), diceInode(&x))
			d.Blocks[at] = modelWords(some[x.below(5)])
			if x.below(30) == 0 {
				d.Blocks[at] = modelWords(some[5])
			}
		}
		for at := 27; at < 47; at++ {
			if x.below(3) > 0 {
				d.Blocks[at] = list(x.below(258))
			}
		}
		count[checkLoad(t, "any inodes", d)]++
	}
	wantCounts(t, count, impl.OK, impl.ErrForm, impl.ErrNone, impl.ErrText, impl.ErrTaken)
}

// Three directories and a file: every way in which they can name each other, as
// they stand on a disk.
func TestImagesOfEachGraph(t *testing.T) {
	whole := 0
	for set := range 1 << 12 {
		for links := int64(1); links < 4; links++ {
			f := tree(graph(set, links)...)
			if checkLoad(t, "a graph", imageDisk(5, f)) == impl.OK {
				whole++
				checkImage(t, "a graph", f)
			}
		}
	}
	if whole != 21 {
		t.Errorf("%d of them are whole, not 21", whole)
	}
}
