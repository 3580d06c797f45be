package tests

import (
	"fmt"
	"slices"
	"testing"

	"loop.example/g00295/impl"
)

// The names, constants and signatures of chapter 12, as the document has them.
var (
	_ func(impl.Fs) impl.PutsResult               = impl.InodePuts
	_ func(impl.Fs) impl.PutsResult               = impl.DataPuts
	_ func(impl.Disk, []impl.Put) impl.PutsResult = impl.ChangedPuts
	_ func(impl.Disk) impl.FsResult               = impl.LoadImage
	_ func(impl.Fs) impl.IntsResult               = impl.BusyOf
	_ func(impl.Disk) impl.IntResult              = impl.SeqOf
	_ func(int64) impl.DiskResult                 = impl.FormatDisk
	_                                             = impl.PutsResult{Code: int64(0), Puts: []impl.Put(nil)}
)

func TestImageConstants(t *testing.T) {
	got := list(impl.SuperAt, impl.JournalAt, impl.JournalSize, impl.InodesAt, impl.DataAt, impl.DiskSize)
	if want := list(0, 1, 16, 17, 27, 47); !same(got, want) {
		t.Errorf("constants %v, not %v", got, want)
	}
}

func puts(list ...impl.Put) []impl.Put {
	return list
}

func putOf(at int64, words ...int64) impl.Put {
	return impl.Put{At: at, Words: words}
}

func wantPuts(t *testing.T, what string, r impl.PutsResult, want []impl.Put) {
	t.Helper()
	if !same(r, impl.PutsResult{Puts: want}) {
		t.Errorf("%s: %v, not %v", what, r, want)
	}
}

func wantNoPuts(t *testing.T, what string, r impl.PutsResult, code int64) {
	t.Helper()
	if !same(r, impl.PutsResult{Code: code}) {
		t.Errorf("%s: %v, not code %d alone", what, r, code)
	}
}

// wordsIn is bytes as words.
func wordsIn(held []byte) []int64 {
	var words []int64
	for _, b := range held {
		words = append(words, int64(b))
	}
	return words
}

// imageDisk is a disk of a file system, written down without the functions of
// chapter 12, and whether the file system has a fault or not.
func imageDisk(seq int64, f impl.Fs) impl.Disk {
	d := impl.Disk{Blocks: emptyBlocks(47)}
	d.Blocks[0] = list(7, seq)
	for at, x := range f.Inodes {
		d.Blocks[17+at] = modelWords(x)
	}
	for at, held := range f.Data {
		d.Blocks[27+at] = wordsIn(held)
	}
	return d
}

// modelInodePuts and modelDataPuts are the blocks of such a disk: all of the
// inodes, and those of Data that a file has.
func modelInodePuts(f impl.Fs) []impl.Put {
	var all []impl.Put
	for at, words := range imageDisk(1, f).Blocks[17:27] {
		all = append(all, impl.Put{At: 17 + int64(at), Words: words})
	}
	return all
}

func modelDataPuts(f impl.Fs) []impl.Put {
	var all []impl.Put
	used, _ := modelUsed(f.Inodes)
	for _, at := range used {
		all = append(all, impl.Put{At: 27 + at, Words: wordsIn(f.Data[at])})
	}
	return all
}

// putAll puts all of these, with a flush behind each one if it is asked for.
func putAll(t *testing.T, d impl.Disk, all []impl.Put, flushed bool) impl.Disk {
	t.Helper()
	for _, p := range all {
		d = put(t, d, p.At, p.Words...)
		if flushed {
			d = flush(t, d)
		}
	}
	return d
}

func formatted(t *testing.T, seq int64) impl.Disk {
	t.Helper()
	r := impl.FormatDisk(seq)
	if r.Code != impl.OK {
		t.Fatalf("FormatDisk %d: code %d", seq, r.Code)
	}
	return r.Disk
}

// spoiltDisk has words in each block but the first, none of which is of a file
// system.
func spoiltDisk(seq int64) impl.Disk {
	d := impl.Disk{Blocks: fullBlocks(47)}
	d.Blocks[0] = list(7, seq)
	return d
}

// checkImage asks for the first half of promise 13, and what the puts are.
func checkImage(t *testing.T, what string, f impl.Fs) {
	t.Helper()
	inodePuts, dataPuts := impl.InodePuts(f), impl.DataPuts(f)
	wantPuts(t, what+": InodePuts", inodePuts, modelInodePuts(f))
	wantPuts(t, what+": DataPuts", dataPuts, modelDataPuts(f))
	used, _ := modelUsed(f.Inodes)
	wantWords(t, what+": BusyOf", impl.BusyOf(f), used)
	wantWords(t, what+": UsedBlocks", impl.UsedBlocks(f.Inodes), impl.BusyOf(f).List)

	fresh, spoilt := formatted(t, 9), spoiltDisk(9)
	both := slices.Concat(inodePuts.Puts, dataPuts.Puts)
	turned := slices.Clone(both)
	slices.Reverse(turned)
	for told, d := range map[string]impl.Disk{
		"in Cache":               putAll(t, fresh, both, false),
		"flushed":                flush(t, putAll(t, fresh, both, false)),
		"a flush between":        putAll(t, flush(t, putAll(t, fresh, dataPuts.Puts, false)), inodePuts.Puts, false),
		"the other way round":    putAll(t, flush(t, putAll(t, fresh, inodePuts.Puts, false)), dataPuts.Puts, false),
		"from the last one on":   putAll(t, fresh, turned, false),
		"over what stands there": putAll(t, spoilt, both, false),
		"over it, flushed":       flush(t, putAll(t, spoilt, both, false)),
		"by hand":                imageDisk(9, f),
		"those that are changed": putAll(t, putAll(t, fresh, impl.ChangedPuts(fresh, inodePuts.Puts).Puts, false), impl.ChangedPuts(fresh, dataPuts.Puts).Puts, false),
	} {
		wantFs(t, what+": "+told, impl.LoadImage(d), f)
		wantNumber(t, what+": "+told+": SeqOf", impl.SeqOf(d), 9)
		wantPuts(t, what+": "+told+": nothing is changed", impl.ChangedPuts(d, both), nil)
	}
}

// imageTrees are whole file systems by hand: with files of the sizes at which
// blocks end, of all bytes, of several names, and with free inodes.
func imageTrees() []fileTree {
	all := fileTrees()
	for _, size := range list(0, 1, 7, 8, 9, 15, 16, 17, 24, 25, 31, 32) {
		blocks := list(11, 19, 0, 4)[:(size+7)/8]
		all = append(all, fileTree{fmt.Sprint(size, " bytes, and free ones"), tree(dir(entry("a", 3)), kind(0), kind(0), file(1, size, blocks...), kind(0))})
	}
	for n := range 10 {
		all = append(all, fileTree{fmt.Sprint(n, " free ones behind the top"), tree(append(inodes(dir()), alike(n, kind(0))...)...)})
	}
	for _, c := range walkTrees() {
		all = append(all, fileTree{c.what, c.fs})
	}
	for _, c := range itemTrees() {
		all = append(all, fileTree{c.what, c.fs})
	}
	return append(all, allBytes()...)
}

// allBytes have each byte at one place.
func allBytes() []fileTree {
	var all []fileTree
	for from := 0; from < 256; from += 32 {
		f := tree(dir(entry("a", 1)), file(1, 32, 6, 5, 18, 0))
		for i := range 32 {
			f.Data[list(6, 5, 18, 0)[i/8]][i%8] = byte(from + i)
		}
		all = append(all, fileTree{fmt.Sprint("bytes from ", from, " on"), f})
	}
	return all
}

func TestImagesByHand(t *testing.T) {
	for _, c := range imageTrees() {
		wantCode(t, c.what, impl.FsFault(c.fs), impl.OK)
		checkImage(t, c.what, c.fs)
	}
}

// What is put is written by hand here: free inodes have words, and behind the
// last inode there are none.
func TestPutsByHand(t *testing.T) {
	f := tree(dir(entry("a", 3), entry("bc", 1)), dir(entry("d", 3)), kind(0), file(2, 11, 14, 2), kind(0))
	wantCode(t, "by hand", impl.FsFault(f), impl.OK)
	wantPuts(t, "InodePuts", impl.InodePuts(f), puts(
		putOf(17, 2, 0, 0, 2, 3, 1, 97, 1, 2, 98, 99), putOf(18, 2, 0, 0, 1, 3, 1, 100), putOf(19, 0, 0, 0), putOf(20, 1, 2, 11, 14, 2), putOf(21, 0, 0, 0),
		putOf(22), putOf(23), putOf(24), putOf(25), putOf(26)))
	wantPuts(t, "DataPuts", impl.DataPuts(f), puts(putOf(29, 120, 121, 122), putOf(41, 112, 113, 114, 115, 116, 117, 118, 119)))
	f.Data[14], f.Data[2] = []byte{0, 255, 1, 254, 128, 127, 47, 10}, []byte{0, 0, 0}
	wantPuts(t, "DataPuts", impl.DataPuts(f), puts(putOf(29, 0, 0, 0), putOf(41, 0, 255, 1, 254, 128, 127, 47, 10)))
	wantWords(t, "BusyOf", impl.BusyOf(f), list(2, 14))

	top := impl.NewFs(nil).Fs
	wantPuts(t, "of the top alone", impl.InodePuts(top), append(puts(putOf(17, 2, 0, 0, 0)), modelInodePuts(impl.Fs{})[1:]...))
	wantPuts(t, "of the top alone", impl.DataPuts(top), nil)
	wantWords(t, "of the top alone", impl.BusyOf(top), nil)
	wantPuts(t, "of files of no bytes", impl.DataPuts(tree(dir(entry("a", 1), entry("b", 2)), file(1, 0), file(1, 0))), nil)
}

// Blocks 0 and 19 stand at the ends of what is there for data.
func TestDataPutsOfEachBlock(t *testing.T) {
	for at := range int64(20) {
		for size := int64(1); size < 9; size++ {
			f := tree(dir(entry("a", 1)), file(1, size, at))
			wantPuts(t, fmt.Sprint(size, " bytes in ", at), impl.DataPuts(f), puts(impl.Put{At: 27 + at, Words: wordsIn(textOf(1, size))}))
			wantWords(t, fmt.Sprint(size, " bytes in ", at), impl.BusyOf(f), list(at))
			checkImage(t, fmt.Sprint(size, " bytes in ", at), f)
		}
	}
	checkImage(t, "all blocks", fullFiles())
	for i, p := range impl.DataPuts(fullFiles()).Puts {
		if p.At != 27+int64(i) || len(p.Words) != 8 {
			t.Errorf("all blocks: put %d is %v", i, p)
		}
	}
	if n := len(impl.DataPuts(fullFiles()).Puts); n != 20 {
		t.Errorf("all blocks: %d puts", n)
	}
}

// A disk that is formatted, block by block.
func TestFormattedDisks(t *testing.T) {
	for _, seq := range list(1, 2, 5, 255, 256, 4095, 59999, 60000) {
		d := formatted(t, seq)
		want := impl.Disk{Blocks: emptyBlocks(47)}
		want.Blocks[0], want.Blocks[17] = list(7, seq), list(2, 0, 0, 0)
		wantDisk(t, fmt.Sprint("FormatDisk ", seq), d, want)
		wantNumber(t, "SeqOf", impl.SeqOf(d), seq)
		wantFs(t, "LoadImage", impl.LoadImage(d), impl.NewFs(nil).Fs)
		wantPuts(t, "nothing is changed", impl.ChangedPuts(d, impl.InodePuts(impl.NewFs(nil).Fs).Puts), nil)
	}
}

// Words of a file system that was there stay in blocks of no file; they are not
// loaded, also where a later file has fewer bytes in that block.
func TestImagesOverImages(t *testing.T) {
	long := tree(dir(entry("a", 1), entry("b", 2)), file(1, 32, 0, 1, 2, 3), file(1, 32, 4, 5, 6, 7))
	for _, c := range imageTrees() {
		d := putAll(t, imageDisk(3, long), impl.InodePuts(c.fs).Puts, false)
		for _, p := range impl.DataPuts(c.fs).Puts {
			// The words behind those of the file stand there still.
			d = put(t, d, p.At, append(copyOfWords(p.Words), 65535, 256, 7)...)
		}
		wantFs(t, c.what, impl.LoadImage(d), c.fs)
		back := putAll(t, flush(t, d), slices.Concat(impl.InodePuts(long).Puts, impl.DataPuts(long).Puts), false)
		wantFs(t, c.what+", and back", impl.LoadImage(back), long)
	}
}

// Inodes are loaded up to the last place that has words: a free one that has
// words stands there, one without words does where another stands behind it.
func TestInodesUpToTheLast(t *testing.T) {
	free := list(0, 0, 0)
	for last := range 10 {
		for set := range 1 << max(last-1, 0) {
			d := imageDisk(4, tree(dir()))
			all := alike(last+1, kind(0))
			all[0] = dir()
			for at := 1; at <= last; at++ {
				if at == last || set>>(at-1)&1 == 1 {
					d.Blocks[17+at] = free
				}
			}
			wantFs(t, fmt.Sprint(last, " of set ", set), impl.LoadImage(d), tree(all...))
		}
	}
	d := imageDisk(4, tree(dir(entry("a", 4), entry("b", 9)), kind(0), kind(0), kind(0), file(1, 3, 6), kind(0), kind(0), kind(0), kind(0), dir()))
	want := impl.LoadImage(d).Fs
	for _, at := range list(18, 19, 20, 22, 23, 24, 25) {
		d.Blocks[at] = nil
	}
	wantFs(t, "no words between", impl.LoadImage(d), want)
	d.Blocks[17] = list(2, 0, 0, 1, 4, 1, 97)
	d.Blocks[26] = nil
	want.Inodes = want.Inodes[:5]
	want.Inodes[0] = dir(entry("a", 4))
	wantFs(t, "no words behind", impl.LoadImage(d), want)
}
