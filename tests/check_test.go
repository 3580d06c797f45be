package tests

import (
	"fmt"
	"slices"
	"testing"

	"loop.example/g00295/impl"
)

// The names and signatures of chapter 15, as the document has them.
var (
	_ func(impl.Fs) impl.IntsResult         = impl.FindingsOf
	_ func(impl.Fs) impl.FsResult           = impl.RepairFs
	_ func(impl.Fs, []int64) impl.IntResult = impl.RoomOf
	_ func(impl.Disk) impl.IntsResult       = impl.CheckDisk
	_ func(impl.Fs, int64) impl.TextResult  = impl.HeldBy
)

// wantLook asks what is found of a file system and what is repaired of it, and
// for promise 16: what is repaired is whole, of what is whole nothing turns,
// and just in that nothing is found.
func wantLook(t *testing.T, what string, f impl.Fs, found []int64, repaired impl.Fs) {
	t.Helper()
	noughts := list(0, 0, 0, 0, 0)
	wantWords(t, what+": FindingsOf", impl.FindingsOf(f), found)
	wantFs(t, what+": RepairFs", impl.RepairFs(f), repaired)
	wantCode(t, what+": FsFault of what is repaired", impl.FsFault(repaired), impl.OK)
	wantCode(t, what+": by the model", modelFault(repaired), impl.OK)
	wantWords(t, what+": FindingsOf what is repaired", impl.FindingsOf(repaired), noughts)
	wantFs(t, what+": RepairFs of what is repaired", impl.RepairFs(repaired), repaired)
	isWhole := impl.FsFault(f) == impl.OK
	if isWhole != slices.Equal(found, noughts) || isWhole && !same(f, repaired) {
		t.Errorf("%s: is it whole: %v; it has %v", what, isWhole, found)
	}
}

// lookCase is a file system, what is found of it, and what is repaired.
type lookCase struct {
	what     string
	fs       impl.Fs
	found    []int64
	repaired impl.Fs
}

// turnedBy is a file system with something done to it.
func turnedBy(f impl.Fs, do func(f *impl.Fs)) impl.Fs {
	do(&f)
	return f
}

// Entries that lead nowhere, to a free place, and to place 0.
func lostEntryCases() []lookCase {
	return []lookCase{
		{"the top alone", tree(dir()), list(0, 0, 0, 0, 0), tree(dir())},
		{"no place", tree(dir(entry("a", 1), entry("b", 2)), file(1, 9, 3, 4)), list(1, 0, 0, 0, 0), tree(dir(entry("a", 1)), file(1, 9, 3, 4))},
		{"no place ahead", tree(dir(entry("a", 9), entry("b", 1)), file(1, 9, 3, 4)), list(1, 0, 0, 0, 0), tree(dir(entry("b", 1)), file(1, 9, 3, 4))},
		{"no place between", tree(dir(entry("a", 1), entry("b", 5), entry("c", 2)), file(1, 9, 3, 4), dir()), list(1, 0, 0, 0, 0), tree(dir(entry("a", 1), entry("c", 2)), file(1, 9, 3, 4), dir())},
		{"no place at all", tree(dir(sixEntries()...)), list(6, 0, 0, 0, 0), tree(dir())},
		{"no place, below", tree(dir(entry("a", 1)), dir(entry("a", 2), entry("b", 9))), list(2, 0, 0, 0, 0), tree(dir(entry("a", 1)), dir())},
		{"a free place", tree(dir(entry("a", 1), entry("b", 2)), kind(0), file(1, 0)), list(1, 0, 0, 0, 0), tree(dir(entry("b", 2)), kind(0), file(1, 0))},
		{"the last place, free", tree(append(inodes(dir(entry("a", 9))), alike(9, kind(0))...)...), list(1, 0, 0, 0, 0), tree(append(inodes(dir()), alike(9, kind(0))...)...)},
		{"place 0", tree(dir(entry("a", 0), entry("b", 1)), file(1, 3, 7)), list(1, 0, 0, 0, 0), tree(dir(entry("b", 1)), file(1, 3, 7))},
		{"place 0, each of them", tree(dir(entry("a", 0), entry("b", 0), entry("c", 0))), list(3, 0, 0, 0, 0), tree(dir())},
		{"place 0, from below", tree(dir(entry("a", 1)), dir(entry("a", 2), entry("b", 0)), dir(entry("a", 0))), list(2, 0, 0, 0, 0), tree(dir(entry("a", 1)), dir(entry("a", 2)), dir())},
		{"place 0, from a directory that is not met", tree(dir(), dir(entry("a", 0))), list(0, 1, 0, 0, 0), tree(dir(), kind(0))},
		{"entries of a directory that is not met", tree(dir(entry("a", 2)), dir(entry("a", 7), entry("b", 1), entry("c", 2)), dir()), list(0, 1, 0, 0, 0), tree(dir(entry("a", 2)), kind(0), dir())},
	}
}

// Directories that two entries lead to: which one is met first?
func twiceNamedCases() []lookCase {
	return []lookCase{
		{"two of one directory", tree(dir(entry("a", 1), entry("b", 1)), dir(entry("c", 2)), dir()), list(1, 0, 0, 0, 0), tree(dir(entry("a", 1)), dir(entry("c", 2)), dir())},
		{"six of one directory", tree(dir(entry("a", 1), entry("b", 1), entry("c", 1), entry("d", 1), entry("e", 1), entry("f", 1)), dir()), list(5, 0, 0, 0, 0), tree(dir(entry("a", 1)), dir())},
		{"two of two directories", tree(dir(entry("a", 1), entry("b", 2)), dir(entry("x", 3)), dir(entry("x", 3)), dir()), list(1, 0, 0, 0, 0), tree(dir(entry("a", 1), entry("b", 2)), dir(entry("x", 3)), dir(), dir())},
		{"two of two directories, the first of which stands behind", tree(dir(entry("a", 2), entry("b", 1)), dir(entry("x", 3)), dir(entry("x", 3)), dir()), list(1, 0, 0, 0, 0), tree(dir(entry("a", 2), entry("b", 1)), dir(), dir(entry("x", 3)), dir())},
		{"a name that is less in the directory behind", tree(dir(entry("a", 1), entry("b", 2)), dir(entry("x", 3)), dir(entry("a", 3)), dir()), list(1, 0, 0, 0, 0), tree(dir(entry("a", 1), entry("b", 2)), dir(entry("x", 3)), dir(), dir())},
		{"the top, and further down", tree(dir(entry("a", 1), entry("b", 2)), dir(entry("c", 2)), dir()), list(1, 0, 0, 0, 0), tree(dir(entry("a", 1), entry("b", 2)), dir(), dir())},
		{"the top, and further down in itself", tree(dir(entry("a", 2), entry("z", 1)), dir(), dir(entry("b", 1), entry("c", 3)), dir(entry("d", 1))), list(2, 0, 0, 0, 0), tree(dir(entry("a", 2), entry("z", 1)), dir(), dir(entry("c", 3)), dir())},
		{"one further down, by the way of a directory ahead", tree(dir(entry("a", 1), entry("b", 2)), dir(entry("c", 3)), dir(entry("e", 4)), dir(entry("d", 4)), dir()), list(1, 0, 0, 0, 0), tree(dir(entry("a", 1), entry("b", 2)), dir(entry("c", 3)), dir(entry("e", 4)), dir(), dir())},
		{"two further down, in the order of their directories", tree(dir(entry("a", 4), entry("b", 3)), dir(entry("a", 5)), dir(entry("a", 5)), dir(entry("a", 1)), dir(entry("a", 2)), dir()), list(1, 0, 0, 0, 0), tree(dir(entry("a", 4), entry("b", 3)), dir(), dir(entry("a", 5)), dir(entry("a", 1)), dir(entry("a", 2)), dir())},
		{"one of a directory that is not met", tree(dir(entry("b", 2)), dir(entry("a", 2)), dir()), list(0, 1, 0, 0, 0), tree(dir(entry("b", 2)), kind(0), dir())},
		{"with files, once each", tree(dir(entry("a", 1), entry("b", 1)), dir(entry("c", 2)), file(1, 9, 3, 4)), list(1, 0, 0, 0, 0), tree(dir(entry("a", 1)), dir(entry("c", 2)), file(1, 9, 3, 4))},
		{"itself", tree(dir(entry("a", 1)), dir(entry("a", 1))), list(1, 0, 0, 0, 0), tree(dir(entry("a", 1)), dir())},
		{"itself alone", tree(dir(), dir(entry("a", 1))), list(0, 1, 0, 0, 0), tree(dir(), kind(0))},
		{"a directory above", tree(dir(entry("a", 1)), dir(entry("a", 2)), dir(entry("a", 3)), dir(entry("a", 1), entry("b", 2))), list(2, 0, 0, 0, 0), tree(dir(entry("a", 1)), dir(entry("a", 2)), dir(entry("a", 3)), dir())},
		{"one another, one of them of the top", tree(dir(entry("a", 2)), dir(entry("a", 2)), dir(entry("a", 1))), list(1, 0, 0, 0, 0), tree(dir(entry("a", 2)), dir(), dir(entry("a", 1)))},
		{"one another, both of the top", tree(dir(entry("a", 1), entry("b", 2)), dir(entry("a", 2)), dir(entry("a", 1))), list(2, 0, 0, 0, 0), tree(dir(entry("a", 1), entry("b", 2)), dir(), dir())},
		{"one another, nothing else leads to them", tree(dir(entry("a", 1)), file(1, 0), dir(entry("a", 3)), dir(entry("a", 2))), list(0, 2, 0, 0, 0), tree(dir(entry("a", 1)), file(1, 0), kind(0), kind(0))},
		{"three in a ring, nothing else leads to them", tree(dir(), dir(entry("a", 2)), dir(entry("a", 3)), dir(entry("a", 1), entry("b", 0))), list(0, 3, 0, 0, 0), tree(dir(), kind(0), kind(0), kind(0))},
		{"all name all", tree(allNameAll(10)...), list(31, 4, 0, 0, 0), tree(slices.Concat(inodes(dir(entry("b", 1), entry("c", 2), entry("d", 3), entry("e", 4), entry("f", 5))), alike(5, dir()), alike(4, kind(0)))...)},
	}
}

// What nothing leads to, and Links.
func metCases() []lookCase {
	stray := func(f *impl.Fs) { f.Data[3] = []byte("stray") }
	return []lookCase{
		{"a file that nothing leads to", tree(dir(), file(1, 0)), list(0, 1, 0, 0, 0), tree(dir(), kind(0))},
		{"with bytes", tree(dir(), file(7, 12, 3, 5)), list(0, 1, 0, 0, 2), tree(dir(), kind(0))},
		{"a directory that nothing leads to, with a file", tree(dir(), dir(entry("a", 2)), file(1, 8, 3)), list(0, 2, 0, 0, 1), tree(dir(), kind(0), kind(0))},
		{"the last one", tree(append(inodes(dir()), append(alike(8, kind(0)), dir())...)...), list(0, 1, 0, 0, 0), tree(append(inodes(dir()), alike(9, kind(0))...)...)},
		{"all but the top", tree(append(inodes(dir()), alike(9, dir())...)...), list(0, 9, 0, 0, 0), tree(append(inodes(dir()), alike(9, kind(0))...)...)},
		{"a file with two names in one directory", tree(dir(entry("a", 1), entry("b", 1)), file(2, 9, 5, 6)), list(0, 0, 0, 0, 0), tree(dir(entry("a", 1), entry("b", 1)), file(2, 9, 5, 6))},
		{"a file with two names in two directories", tree(dir(entry("a", 1), entry("b", 2)), file(2, 9, 5, 6), dir(entry("a", 1))), list(0, 0, 0, 0, 0), tree(dir(entry("a", 1), entry("b", 2)), file(2, 9, 5, 6), dir(entry("a", 1)))},
		{"Links one fewer", tree(dir(entry("a", 1), entry("b", 1)), file(1, 9, 5, 6)), list(0, 0, 0, 1, 0), tree(dir(entry("a", 1), entry("b", 1)), file(2, 9, 5, 6))},
		{"Links one more", tree(dir(entry("a", 1), entry("b", 1)), file(3, 9, 5, 6)), list(0, 0, 0, 1, 0), tree(dir(entry("a", 1), entry("b", 1)), file(2, 9, 5, 6))},
		{"Links as many as can be", tree(dir(entry("a", 1)), file(60, 0)), list(0, 0, 0, 1, 0), tree(dir(entry("a", 1)), file(1, 0))},
		{"Links of two files", tree(dir(entry("a", 1), entry("b", 2)), file(9, 1, 0), file(2, 1, 1)), list(0, 0, 0, 2, 0), tree(dir(entry("a", 1), entry("b", 2)), file(1, 1, 0), file(1, 1, 1))},
		{"Links with an entry of a directory that is not met", tree(dir(entry("a", 1)), file(2, 8, 3), dir(entry("a", 1))), list(0, 1, 0, 1, 0), tree(dir(entry("a", 1)), file(1, 8, 3), kind(0))},
		{"Links without the entry of a directory that is not met", tree(dir(entry("a", 1)), file(1, 8, 3), dir(entry("a", 1))), list(0, 1, 0, 0, 0), tree(dir(entry("a", 1)), file(1, 8, 3), kind(0))},
		{"Links of a directory that two entries lead to", tree(dir(entry("a", 2), entry("b", 2)), file(2, 8, 3), dir(entry("a", 1))), list(1, 0, 0, 1, 0), tree(dir(entry("a", 2)), file(1, 8, 3), dir(entry("a", 1)))},
		{"Links of a file that nothing leads to", tree(dir(), file(60, 0)), list(0, 1, 0, 0, 0), tree(dir(), kind(0))},
		{"a file with as many names as can be", turnedBy(manyNames(), func(f *impl.Fs) { f.Inodes[9].Links = 1 }), list(0, 0, 0, 1, 0), manyNames()},
		{"bytes of nobody", turnedBy(tree(dir()), stray), list(0, 0, 0, 0, 1), tree(dir())},
		{"bytes of nobody, beside a file", turnedBy(tree(dir(entry("a", 1)), file(1, 9, 2, 4)), stray), list(0, 0, 0, 0, 1), tree(dir(entry("a", 1)), file(1, 9, 2, 4))},
	}
}

// twoFiles are "/a" and "/b", at places 1 and 2 or the other way.
func twoFiles(a, b int64, one, other impl.Inode) impl.Fs {
	return tree(dir(entry("a", a), entry("b", b)), one, other)
}

// withBlocks gives an inode other blocks; the bytes of what it had are of
// nobody.
func withBlocks(f impl.Fs, at int, blocks ...int64) impl.Fs {
	f.Inodes[at].Blocks = blocks
	return f
}

// Files that have the same blocks.
func sharedBlockCases() []lookCase {
	three := func() impl.Fs {
		return tree(dir(entry("a", 1), entry("b", 2), entry("c", 3)), file(1, 8, 3), file(1, 24, 4, 9, 5), file(1, 8, 6))
	}
	chain := withBlocks(withBlocks(three(), 2, 4, 3, 5), 3, 5)
	chained := withBlocks(three(), 3, 5)
	chained.Inodes[2] = file(1, 8, 4)
	chained.Data[9], chained.Data[6] = nil, nil
	return []lookCase{
		{"one block of two files", withBlocks(twoFiles(1, 2, file(1, 8, 3), file(1, 8, 4)), 2, 3), list(0, 0, 1, 0, 1), twoFiles(1, 2, file(1, 8, 3), file(1, 0))},
		{"one block, of a name that is less behind", withBlocks(twoFiles(2, 1, file(1, 8, 3), file(1, 8, 4)), 2, 3), list(0, 0, 1, 0, 1), twoFiles(2, 1, file(1, 8, 3), file(1, 0))},
		{"all blocks of two files", withBlocks(twoFiles(1, 2, file(1, 32, 3, 4, 5, 6), file(1, 32, 10, 11, 12, 13)), 2, 6, 5, 4, 3), list(0, 0, 4, 0, 4), twoFiles(1, 2, file(1, 32, 3, 4, 5, 6), file(1, 0))},
		{"the last block", withBlocks(twoFiles(1, 2, file(1, 8, 3), file(1, 20, 4, 5, 6)), 2, 4, 5, 3), list(0, 0, 1, 0, 1), twoFiles(1, 2, file(1, 8, 3), file(1, 16, 4, 5))},
		{"a block ahead of right ones", withBlocks(twoFiles(1, 2, file(1, 8, 3), file(1, 20, 4, 5, 6)), 2, 4, 3, 6), list(0, 0, 2, 0, 2), twoFiles(1, 2, file(1, 8, 3), file(1, 8, 4))},
		{"the first block, ahead of right ones", withBlocks(twoFiles(1, 2, file(1, 8, 3), file(1, 32, 4, 5, 6, 7)), 2, 3, 5, 6, 7), list(0, 0, 4, 0, 4), twoFiles(1, 2, file(1, 8, 3), file(1, 0))},
		{"block 0 and block 19", withBlocks(twoFiles(1, 2, file(1, 16, 0, 19), file(1, 16, 1, 18)), 2, 19, 0), list(0, 0, 2, 0, 2), twoFiles(1, 2, file(1, 16, 0, 19), file(1, 0))},
		{"a block of a file that is not met", turnedBy(tree(dir(entry("a", 2)), file(1, 0), file(1, 9, 3, 4)), func(f *impl.Fs) { f.Inodes[1] = file(1, 9, 4, 3) }), list(0, 1, 0, 0, 0), tree(dir(entry("a", 2)), kind(0), file(1, 9, 3, 4))},
		{"a block that a file has, but not as a right one", chain, list(0, 0, 2, 0, 2), chained},
	}
}

// What Data has: too few bytes, too many, and such as are counted when all else
// is repaired.
func bytesCases() []lookCase {
	whole := func() impl.Fs { return twoFiles(1, 2, file(1, 12, 3, 4), file(1, 3, 5)) }
	held := func(block int, text string) impl.Fs {
		return turnedBy(whole(), func(f *impl.Fs) { f.Data[block] = []byte(text) })
	}
	swapped := turnedBy(whole(), func(f *impl.Fs) { f.Data[3], f.Data[4] = f.Data[4], f.Data[3] })
	return []lookCase{
		{"none of a full block", held(3, ""), list(0, 0, 0, 0, 1), held(3, "\x00\x00\x00\x00\x00\x00\x00\x00")},
		{"one of a full block", held(3, "x"), list(0, 0, 0, 0, 1), held(3, "x\x00\x00\x00\x00\x00\x00\x00")},
		{"one fewer of a full block", held(3, "abcdefg"), list(0, 0, 0, 0, 1), held(3, "abcdefg\x00")},
		{"other bytes, just as many", held(3, "\x00\x01\xff z.AZ"), list(0, 0, 0, 0, 0), held(3, "\x00\x01\xff z.AZ")},
		{"one more of a full block", held(3, "abcdefghi"), list(0, 0, 0, 0, 1), held(3, "abcdefgh")},
		{"many more of a full block", held(3, "abcdefghijklmnopqrstuvwxyz"), list(0, 0, 0, 0, 1), held(3, "abcdefgh")},
		{"one fewer of the last block", held(4, "abc"), list(0, 0, 0, 0, 1), held(4, "abc\x00")},
		{"one more of the last block", held(4, "abcde"), list(0, 0, 0, 0, 1), held(4, "abcd")},
		{"a full one for the last block", held(4, "abcdefgh"), list(0, 0, 0, 0, 1), held(4, "abcd")},
		{"one of nobody", held(19, "x"), list(0, 0, 0, 0, 1), whole()},
		{"a full one of nobody", held(0, "abcdefgh"), list(0, 0, 0, 0, 1), whole()},
		{"more than a full one of nobody", held(0, "abcdefghi"), list(0, 0, 0, 0, 1), whole()},
		{"the one for the other", swapped, list(0, 0, 0, 0, 2), turnedBy(whole(), func(f *impl.Fs) {
			f.Data[3], f.Data[4] = append(slices.Clone(f.Data[4]), 0, 0, 0, 0), f.Data[3][:4]
		})},
		{"none at all", turnedBy(whole(), func(f *impl.Fs) { f.Data = make([][]byte, 20) }), list(0, 0, 0, 0, 3), turnedBy(whole(), func(f *impl.Fs) {
			f.Data[3], f.Data[4], f.Data[5] = make([]byte, 8), make([]byte, 4), make([]byte, 3)
		})},
	}
}

// The bytes of a block are counted against the file that has it as a right one
// in the end, and how many of its Size are left.
func bytesOfRightBlocksCases() []lookCase {
	shared := func(text string) impl.Fs {
		f := withBlocks(twoFiles(1, 2, file(1, 12, 3, 4), file(1, 16, 5, 6)), 2, 5, 4)
		f.Data[6], f.Data[4] = nil, []byte(text)
		return f
	}
	left := func(text string) impl.Fs {
		f := twoFiles(1, 2, file(1, 12, 3, 4), file(1, 8, 5))
		f.Data[4] = []byte(text)
		return f
	}
	freed := withBlocks(twoFiles(1, 2, file(1, 12, 3, 4), file(1, 9, 5, 6)), 2, 3, 6)
	gone := withBlocks(tree(dir(entry("b", 2)), file(1, 12, 3, 4), file(1, 3, 5)), 2, 4)
	gone.Data[5] = nil
	kept := tree(dir(entry("b", 2)), kind(0), file(1, 3, 4))
	kept.Data[4] = tree(dir(), file(1, 12, 3, 4)).Data[4][:3]
	return []lookCase{
		{"as the file ahead needs them", shared("abcd"), list(0, 0, 1, 0, 0), left("abcd")},
		{"as the file behind would need them", shared("abcdefgh"), list(0, 0, 1, 0, 1), left("abcd")},
		{"of blocks behind a wrong one", freed, list(0, 0, 2, 0, 2), twoFiles(1, 2, file(1, 12, 3, 4), file(1, 0))},
		{"as a file that is not met would need them", gone, list(0, 1, 0, 0, 2), kept},
	}
}

func allLookCases() []lookCase {
	return slices.Concat(lostEntryCases(), twiceNamedCases(), metCases(), sharedBlockCases(), bytesCases(), bytesOfRightBlocksCases(), []lookCase{manyFindings()})
}

// manyFindings has all five, none as often as another.
func manyFindings() lookCase {
	f := tree(
		dir(entry("a", 1), entry("b", 2), entry("c", 0), entry("d", 2), entry("e", 9), entry("f", 3)),
		file(5, 32, 0, 1, 2, 3),
		dir(entry("a", 3), entry("b", 6), entry("c", 2)),
		file(1, 30, 10, 7, 8, 9),
		dir(entry("a", 5)), file(1, 8, 11), kind(0), file(2, 0),
	)
	want := tree(dir(entry("a", 1), entry("b", 2), entry("f", 3)), file(1, 32, 0, 1, 2, 3), dir(entry("a", 3)), file(2, 0), kind(0), kind(0), kind(0), kind(0))
	f.Inodes[3].Blocks[0] = 3
	f.Data[10], f.Data[8], f.Data[9] = nil, nil, nil
	f.Data[0], f.Data[1], f.Data[2], f.Data[19] = f.Data[0][:7], append(f.Data[1], 'x'), nil, []byte("x")
	want.Data[0][7], want.Data[2] = 0, make([]byte, 8)
	return lookCase{"all five", f, list(5, 3, 4, 2, 6), want}
}

func TestWhatIsFound(t *testing.T) {
	for _, c := range allLookCases() {
		wantLook(t, c.what, c.fs, c.found, c.repaired)
		m := newModelLook(c.fs)
		if !same(m.findings(), c.found) || !same(m.repaired(), c.repaired) {
			t.Errorf("%s: by the model %v, %v", c.what, m.findings(), m.repaired())
		}
	}
}

// placed is the same file system, with its inodes at these places.
func placed(f impl.Fs, places []int64) impl.Fs {
	next := impl.Fs{Inodes: make([]impl.Inode, len(f.Inodes)), Data: f.Data}
	for at, x := range f.Inodes {
		x.Entries = slices.Clone(x.Entries)
		for i, e := range x.Entries {
			if e.Inode < int64(len(places)) {
				x.Entries[i].Inode = places[e.Inode]
			}
		}
		next.Inodes[places[at]] = x
	}
	return next
}

// ordersOf is all orders of the numbers from 0 below n that begin with 0.
func ordersOf(n int64) [][]int64 {
	all := [][]int64{list(0)}
	for next := int64(1); next < n; next++ {
		var longer [][]int64
		for _, order := range all {
			for i := 1; i <= len(order); i++ {
				longer = append(longer, slices.Insert(slices.Clone(order), i, next))
			}
		}
		all = longer
	}
	return all
}

// Where inodes stand does not matter for which entries are right: that hangs on
// the order of names alone.
func TestPlacesDoNotMatterForEntries(t *testing.T) {
	for _, c := range slices.Concat(lostEntryCases(), twiceNamedCases(), metCases()) {
		if len(c.fs.Inodes) > 6 {
			continue
		}
		for _, places := range ordersOf(int64(len(c.fs.Inodes))) {
			wantLook(t, fmt.Sprint(c.what, ", placed ", places), placed(c.fs, places), c.found, placed(c.repaired, places))
		}
	}
}

// Files of each two sizes, each two of whose blocks are the same one.
func TestEachBlockOfTwoFiles(t *testing.T) {
	blocks, others := list(3, 8, 1, 19), list(7, 2, 18, 0)
	for size := int64(1); size < 33; size++ {
		for other := int64(1); other < 33; other += 3 {
			for i := range (size + 7) / 8 {
				for j := range (other + 7) / 8 {
					one, two := file(1, size, blocks[:(size+7)/8]...), file(1, other, others[:(other+7)/8]...)
					f := twoFiles(1, 2, one, two)
					cut := twoFiles(1, 2, one, file(1, min(other, 8*j), others[:j]...))
					due := len(two.Blocks) - int(j)
					two.Blocks = slices.Clone(two.Blocks)
					two.Blocks[j] = blocks[i]
					wantLook(t, fmt.Sprint(size, " bytes, ", i, " is the ", j, " of ", other), withBlocks(f, 2, two.Blocks...), list(0, 0, int64(due), 0, int64(due)), cut)
				}
			}
		}
	}
}

// Each number of bytes where each number is due.
func TestEachNumberOfBytes(t *testing.T) {
	for size := int64(0); size < 9; size++ {
		for n := range int64(20) {
			f := tree(dir(entry("a", 1)), file(1, 0))
			if size > 0 {
				f = tree(dir(entry("a", 1)), file(1, size, 7))
			}
			want := ownFs(f)
			f.Data[7] = freshText(n)
			want.Data[7] = slices.Concat(freshText(n), make([]byte, 8))[:size]
			wantLook(t, fmt.Sprint(n, " bytes for ", size), f, list(0, 0, 0, 0, codeIf(n != size, 1)), want)
		}
	}
}
