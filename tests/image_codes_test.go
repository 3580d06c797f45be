package tests

import (
	"fmt"
	"math"
	"slices"
	"testing"

	"loop.example/g00295/impl"
)

func TestFaultsAheadOfPuts(t *testing.T) {
	for _, c := range append(turnedTrees(), faultyTrees()...) {
		if c.code == impl.OK {
			checkImage(t, c.what, c.fs)
			continue
		}
		wantNoPuts(t, c.what+": InodePuts", impl.InodePuts(c.fs), c.code)
		wantNoPuts(t, c.what+": DataPuts", impl.DataPuts(c.fs), c.code)
		wantNoWords(t, c.what+": BusyOf", impl.BusyOf(c.fs), c.code)
	}
}

func TestCodesOfFormatDisk(t *testing.T) {
	for _, seq := range list(1, 60000) {
		wantCode(t, fmt.Sprint("FormatDisk ", seq), impl.FormatDisk(seq).Code, impl.OK)
	}
	for _, seq := range list(math.MinInt64, -1<<32+1, -60000, -1, 0, 60001, 65535, 65536, 65537, 1<<32, 1<<32+1, math.MaxInt64) {
		if r := impl.FormatDisk(seq); !same(r, impl.DiskResult{Code: impl.ErrRange}) {
			t.Errorf("FormatDisk %d: %v", seq, r)
		}
	}
}

// superCases are first blocks, with the code and the number of a disk that has
// them.
type superCase struct {
	words  []int64
	code   int64
	number int64
}

func superCases() []superCase {
	text := int64(impl.ErrText)
	return []superCase{
		{nil, text, 0}, {list(), text, 0}, {list(0), text, 0}, {list(7), text, 0}, {list(5), text, 0},
		{list(7, 0), text, 0}, {list(7, 1), 0, 1}, {list(7, 2), 0, 2}, {list(7, 7), 0, 7}, {list(7, 255), 0, 255}, {list(7, 256), 0, 256},
		{list(7, 59999), 0, 59999}, {list(7, 60000), 0, 60000}, {list(7, 60001), text, 0}, {list(7, 65535), text, 0},
		{list(6, 5), text, 0}, {list(8, 5), text, 0}, {list(0, 5), text, 0}, {list(65535, 5), text, 0}, {list(263, 5), text, 0}, {list(5, 7), text, 0}, {list(1, 7), text, 0},
		{list(7, 5, 0), text, 0}, {list(7, 5, 5), text, 0}, {list(7, 5, 65535), text, 0}, {list(7, 0, 5), text, 0}, {list(0, 7, 5), text, 0}, {fill(64, 7), text, 0},
	}
}

func TestFirstBlocks(t *testing.T) {
	f := tree(dir(entry("a", 1)), file(1, 9, 3, 4))
	for _, c := range superCases() {
		for _, other := range superCases() {
			d := imageDisk(5, f)
			d.Blocks[0] = other.words
			d = put(t, d, 0, c.words...)
			checkSeq(t, fmt.Sprint(c.words, " in Cache, in Blocks ", other.words), d, f, c)
			checkSeq(t, fmt.Sprint(c.words, " over ", other.words), flush(t, d), f, c)
			checkSeq(t, fmt.Sprint(c.words, " put twice, over ", other.words), put(t, put(t, d, 0, other.words...), 0, c.words...), f, c)
			checkSeq(t, fmt.Sprint(c.words, " dropped, of ", other.words), crash(t, d), f, other)
		}
	}
}

func checkSeq(t *testing.T, what string, d impl.Disk, f impl.Fs, c superCase) {
	t.Helper()
	if r := impl.SeqOf(d); r != (impl.IntResult{Code: c.code, Value: c.number}) {
		t.Errorf("%s: SeqOf %v", what, r)
	}
	if c.code == impl.OK {
		wantFs(t, what, impl.LoadImage(d), f)
	} else {
		wantNoFs(t, what, impl.LoadImage(d), c.code)
	}
}

// wantNoImage asks for the code that SeqOf and LoadImage have alike.
func wantNoImage(t *testing.T, what string, d impl.Disk, code int64) {
	t.Helper()
	wantNoNumber(t, what+": SeqOf", impl.SeqOf(d), code)
	wantNoFs(t, what+": LoadImage", impl.LoadImage(d), code)
}

// Disks of other sizes are none, whatever stands on them.
func TestHowManyBlocksAnImageHas(t *testing.T) {
	for n := range 70 {
		for _, words := range [][]int64{nil, list(7, 5), list(7), list(7, 60001)} {
			d := impl.Disk{Blocks: emptyBlocks(n)}
			if n > 0 {
				d.Blocks[0] = words
			}
			if n > 17 {
				d.Blocks[17] = list(2, 0, 0, 0)
			}
			what := fmt.Sprint(n, " blocks, the first of ", words)
			switch {
			case n > 60:
				wantNoImage(t, what, d, impl.ErrMany)
			case n != 47:
				wantNoImage(t, what, d, impl.ErrForm)
			case !same(words, list(7, 5)):
				wantNoImage(t, what, d, impl.ErrText)
			default:
				wantNumber(t, what, impl.SeqOf(d), 5)
				wantFs(t, what, impl.LoadImage(d), tree(dir()))
			}
		}
	}
}

func TestDiskFaultsAheadOfImages(t *testing.T) {
	for _, c := range allDisks() {
		wantNoImage(t, c.what, c.disk, firstCode(c.code, impl.ErrForm))
		if c.code == impl.OK {
			continue
		}
		for what, list := range map[string][]impl.Put{"no puts": nil, "61 puts": emptyPuts(61), "a put at -1": {{At: -1}}, "one that is right": emptyPuts(1)} {
			wantNoPuts(t, c.what+": ChangedPuts of "+what, impl.ChangedPuts(c.disk, list), c.code)
		}
	}
	for what, turn := range map[string]func(d *impl.Disk){
		"a word below 0":          func(d *impl.Disk) { d.Blocks[46] = list(-1) },
		"a word above 65535":      func(d *impl.Disk) { d.Blocks[5] = list(0, 65536) },
		"a number below 0":        func(d *impl.Disk) { d.Blocks[0] = list(7, -5) },
		"a number of more":        func(d *impl.Disk) { d.Blocks[0] = list(7, 65537) },
		"an inode's word below 0": func(d *impl.Disk) { d.Blocks[17] = list(2, 0, 0, -1) },
		"a byte below 0":          func(d *impl.Disk) { d.Blocks[30][2] = -1 },
		"a byte far above":        func(d *impl.Disk) { d.Blocks[30][7] = 1 << 32 },
		"a byte behind them":      func(d *impl.Disk) { d.Blocks[31] = list(0, -1) },
		"in Cache":                func(d *impl.Disk) { d.Cache = puts(putOf(46, 65536)) },
		"At 47 in Cache":          func(d *impl.Disk) { d.Cache = puts(putOf(47)) },
	} {
		d := imageDisk(5, tree(dir(entry("a", 1)), file(1, 9, 3, 4)))
		turn(&d)
		wantNoImage(t, what, d, impl.ErrRange)
		wantNoPuts(t, what, impl.ChangedPuts(d, nil), impl.ErrRange)
	}
}

// Words that no inode has, at each place, in Blocks and in Cache, alone, behind
// others of another kind, and over an inode that is right.
func TestInodesThatCannotBeRead(t *testing.T) {
	f := tree(dir(entry("a", 1)), file(1, 9, 3, 4))
	for _, c := range textWords() {
		for at := int64(17); at < 27; at++ {
			what := fmt.Sprint(c.what, " at ", at)
			cached := put(t, imageDisk(5, f), at, c.words...)
			wantNoFs(t, what+", in Cache", impl.LoadImage(cached), impl.ErrText)
			wantNoFs(t, what, impl.LoadImage(flush(t, cached)), impl.ErrText)
			wantNumber(t, what+": SeqOf", impl.SeqOf(cached), 5)
			wantFs(t, what+", dropped", impl.LoadImage(crash(t, cached)), f)
			mended := put(t, flush(t, cached), at, imageDisk(5, f).Blocks[at]...)
			wantFs(t, what+", mended in Cache", impl.LoadImage(mended), f)
			alone := impl.Disk{Blocks: emptyBlocks(47)}
			alone.Blocks[0], alone.Blocks[at] = list(7, 5), c.words
			wantNoFs(t, what+", alone", impl.LoadImage(alone), impl.ErrText)
		}
	}
	for _, at := range upTo(47) {
		if at > 0 && (at < 17 || at > 26) {
			wantFs(t, fmt.Sprint("no inode at ", at), impl.LoadImage(put(t, imageDisk(5, tree(dir())), at, 9, 9, 9)), tree(dir()))
		}
	}
}

// Without a directory at the first place there is nothing to be loaded.
func TestImagesWithoutATop(t *testing.T) {
	d := imageDisk(5, tree(dir()))
	d.Blocks[17] = nil
	wantNoFs(t, "no words at all", impl.LoadImage(d), impl.ErrForm)
	for at := 18; at < 27; at++ {
		for _, words := range [][]int64{list(0, 0, 0), list(1, 1, 0), list(1, 1, 1, 7), list(2, 0, 0, 0)} {
			d := imageDisk(5, tree(dir()))
			d.Blocks[17], d.Blocks[at] = nil, words
			wantNoFs(t, fmt.Sprint("nothing ahead of ", words, " at ", at), impl.LoadImage(d), impl.ErrForm)
		}
	}
	for _, words := range [][]int64{list(0, 0, 0), list(1, 1, 0), list(1, 1, 9, 2, 3)} {
		d.Blocks[17] = words
		wantNoFs(t, fmt.Sprint(words, " alone"), impl.LoadImage(d), impl.ErrForm)
		d.Blocks[18] = list(2, 0, 0, 0)
		wantNoFs(t, fmt.Sprint(words, " ahead of a directory"), impl.LoadImage(d), impl.ErrForm)
	}
	all := impl.Disk{Blocks: emptyBlocks(47)}
	all.Blocks[0] = list(7, 5)
	for at := 17; at < 27; at++ {
		all.Blocks[at] = list(0, 0, 0)
	}
	wantNoFs(t, "ten that are free", impl.LoadImage(all), impl.ErrForm)
	all.Blocks[17] = list(2, 0, 0, 0)
	wantFs(t, "a top and nine that are free", impl.LoadImage(all), tree(append(inodes(dir()), alike(9, kind(0))...)...))
}

// Files of each size: each block has fewer words, more of them, and each word
// that is no byte, among those that count and behind them.
func TestWordsOfBlocks(t *testing.T) {
	for size := int64(1); size < 33; size++ {
		blocks := list(6, 19, 0, 11)[:(size+7)/8]
		f := tree(dir(entry("a", 1), entry("b", 2)), file(1, size, blocks...), file(1, 3, 4))
		for i, block := range blocks {
			at := 27 + block
			due := int(min(size-int64(i)*8, 8))
			words := wordsIn(f.Data[block])
			what := fmt.Sprint(size, " bytes, block ", i, ": ")
			for n := range due {
				checkBlock(t, fmt.Sprint(what, n, " words"), f, at, words[:n], nil)
				checkBlock(t, fmt.Sprint(what, n, " words that are none"), f, at, fill(n, 65535), nil)
			}
			for _, more := range [][]int64{{}, {0}, {255}, {256}, {65535}, {3, 256, 4}, fill(64-due, 65535)} {
				checkBlock(t, fmt.Sprint(what, "behind them ", more), f, at, append(copyOfWords(words), more...), words)
			}
			for place := range due {
				for _, word := range list(0, 1, 127, 128, 254, 255, 256, 257, 511, 512, 32768, 65535) {
					turned := append(copyOfWords(words), 9)
					turned[place] = word
					want := turned[:due]
					if word > 255 {
						want = nil
					}
					checkBlock(t, fmt.Sprint(what, "word ", place, " is ", word), f, at, turned, want)
				}
			}
		}
	}
}

// checkBlock puts these words into a block of the image of a file system: it is
// loaded with the bytes that are wanted there, or without any there is ErrText.
func checkBlock(t *testing.T, what string, f impl.Fs, at int64, words, want []int64) {
	t.Helper()
	cached := put(t, imageDisk(5, f), at, words...)
	for _, d := range []impl.Disk{cached, flush(t, cached)} {
		if want == nil {
			wantNoFs(t, what, impl.LoadImage(d), impl.ErrText)
			continue
		}
		turned := impl.Fs{Inodes: f.Inodes, Data: slices.Clone(f.Data)}
		turned.Data[at-27] = nil
		for _, word := range want {
			turned.Data[at-27] = append(turned.Data[at-27], byte(word))
		}
		wantFs(t, what, impl.LoadImage(d), turned)
	}
	wantFs(t, what+", dropped", impl.LoadImage(crash(t, cached)), f)
}

// diskTurn is one thing that is wrong with a disk.
type diskTurn struct {
	what string
	code int64
	do   func(d *impl.Disk)
}

// diskTurns stand in the order in which LoadImage asks their codes. Each may be
// done with any others to the image of turnedTree.
func diskTurns() []diskTurn {
	return []diskTurn{
		{"too many in Cache", impl.ErrMany, func(d *impl.Disk) { d.Cache = emptyPuts(201) }},
		{"a word above 65535", impl.ErrRange, func(d *impl.Disk) { d.Blocks[3] = list(65536) }},
		{"a block more", impl.ErrForm, func(d *impl.Disk) { d.Blocks = append(d.Blocks, nil) }},
		{"no number", impl.ErrText, func(d *impl.Disk) { d.Blocks[0] = list(7, 60001) }},
		{"no inode", impl.ErrText, func(d *impl.Disk) { d.Blocks[26] = list(9) }},
		{"the first is a file", impl.ErrForm, func(d *impl.Disk) { d.Blocks[17] = list(1, 1, 0) }},
		{"a block of two files", impl.ErrTaken, func(d *impl.Disk) { d.Blocks[21] = list(1, 1, 3, 8) }},
		{"an entry of a free one", impl.ErrNone, func(d *impl.Disk) { d.Blocks[19] = list(2, 0, 0, 2, 3, 1, 97, 5, 1, 98) }},
		{"a word above 255", impl.ErrText, func(d *impl.Disk) { d.Blocks[33] = list(256) }},
		{"a file that nothing names", impl.ErrForm, func(d *impl.Disk) { d.Blocks[23] = list(1, 1, 0) }},
	}
}

func TestWhichCodeOfLoadImageComesFirst(t *testing.T) {
	for set := range 1 << len(diskTurns()) {
		d := imageDisk(5, turnedTree())
		what := "LoadImage of"
		code, seqCode := int64(impl.OK), int64(impl.OK)
		for i, turn := range diskTurns() {
			if set>>i&1 == 0 {
				continue
			}
			turn.do(&d)
			what += " " + turn.what + ","
			code = firstCode(code, turn.code)
			if i < 4 {
				seqCode = firstCode(seqCode, turn.code)
			}
		}
		if code == impl.OK {
			wantFs(t, what, impl.LoadImage(d), turnedTree())
		} else {
			wantNoFs(t, what, impl.LoadImage(d), code)
		}
		if r := impl.SeqOf(d); r.Code != seqCode || (seqCode == impl.OK) != (r.Value == 5) {
			t.Errorf("%s: SeqOf %v", what, r)
		}
	}
}

// Trees with each fault that may stand on a disk, each with bytes that are
// right, and with such as are wrong: up to where entries lead the tree comes
// first, behind it the bytes do.
func TestTreesAheadOfBytes(t *testing.T) {
	var early, late int
	for _, c := range append(append(faultyTrees(), turnedTrees()...), linkFaults()...) {
		f := impl.Fs{Inodes: c.fs.Inodes, Data: make([][]byte, 20)}
		if !isOnDisk(f.Inodes) {
			continue
		}
		for block := range f.Data {
			f.Data[block] = []byte("12345678")
		}
		d := imageDisk(5, f)
		first := modelReachCode(f)
		whole := loaded(f)
		if code := modelFault(whole); code != impl.OK {
			wantNoFs(t, c.what, impl.LoadImage(d), code)
		} else {
			wantFs(t, c.what, impl.LoadImage(d), whole)
		}
		used, _ := modelUsed(f.Inodes)
		for _, block := range used {
			for _, words := range [][]int64{nil, fill(8, 256)} {
				wrong := put(t, d, 27+block, words...)
				wantNoFs(t, fmt.Sprint(c.what, ", wrong bytes in ", block), impl.LoadImage(wrong), firstCode(first, impl.ErrText))
			}
			early += int(min(first, 1))
			late += int(1 - min(first, 1))
		}
	}
	for _, c := range linkFaults() {
		d := imageDisk(5, impl.Fs{Inodes: c.fs.Inodes})
		d.Blocks[30], d.Blocks[31], d.Blocks[32] = fill(8, 1), fill(8, 2), fill(8, 3)
		wantCode(t, c.what, impl.LoadImage(d).Code, c.code)
	}
	if early < 40 || late < 40 {
		t.Errorf("too few trees: %d with a fault ahead of bytes, %d with none", early, late)
	}
}

// linkFaults have files of bytes and a tree that is wrong, each in another way.
func linkFaults() []codedTree {
	return []codedTree{
		{"no top", tree(kind(0), file(1, 9, 3, 4)), impl.ErrForm},
		{"a file for a top", tree(file(1, 9, 3, 4), dir()), impl.ErrForm},
		{"a block of two", impl.Fs{Inodes: inodes(dir(entry("a", 1), entry("b", 2)), file(1, 9, 3, 4), file(1, 9, 5, 4))}, impl.ErrTaken},
		{"an entry of no place", tree(dir(entry("a", 1), entry("b", 2)), file(1, 9, 3, 4)), impl.ErrNone},
		{"an entry of a free one", tree(dir(entry("a", 1), entry("b", 2)), file(1, 9, 3, 4), kind(0)), impl.ErrNone},
		{"a link more", tree(dir(entry("a", 1)), file(2, 9, 3, 4)), impl.ErrForm},
		{"a link fewer", tree(dir(entry("a", 1), entry("b", 1)), file(1, 9, 3, 4)), impl.ErrForm},
		{"a file of no name", tree(dir(entry("a", 1)), file(1, 9, 3, 4), file(1, 8, 5)), impl.ErrForm},
		{"a directory of two names", tree(dir(entry("a", 1), entry("b", 2), entry("c", 2)), file(1, 9, 3, 4), dir()), impl.ErrForm},
		{"a directory of its own", tree(dir(entry("a", 1)), file(1, 9, 3, 4), dir(entry("a", 2))), impl.ErrForm},
		{"a top that is named", tree(dir(entry("a", 0), entry("b", 1)), file(1, 9, 3, 4)), impl.ErrForm},
		{"nothing", tree(dir(entry("a", 1)), file(1, 9, 3, 4)), impl.OK},
	}
}

// isOnDisk: inodes that have words, and places, on a disk.
func isOnDisk(all []impl.Inode) bool {
	for _, x := range all {
		if impl.InodeFault(x) != impl.OK {
			return false
		}
	}
	return len(all) <= 10
}

// loaded is a file system with as many bytes in each block as it should have,
// of those that it has.
func loaded(f impl.Fs) impl.Fs {
	var due [20]int64
	for _, x := range f.Inodes {
		for place := range x.Size {
			due[x.Blocks[place/8]]++
		}
	}
	next := impl.Fs{Inodes: f.Inodes, Data: make([][]byte, 20)}
	for block, n := range due {
		next.Data[block] = f.Data[block][:min(n, int64(len(f.Data[block])))]
	}
	return next
}
