package tests

import (
	"strings"
	"testing"

	"loop.example/g00295/impl"
)

// memoryInodes are inodes with room behind the ends of their lists, without
// lists, and with faults, their names in memory of their own.
func memoryInodes() []impl.Inode {
	blocks := list(4, 2, 7, 9, 11, 13)
	entries := append(sixEntries(), entry("g", 7), entry("h", 8))
	for i := range entries {
		entries[i].Name = strings.Clone(entries[i].Name + "xy")
	}
	all := []impl.Inode{
		file(1, 9, blocks[:2]...),
		file(1, 0, blocks[:0]...),
		file(1, 32, blocks[1:5:5]...),
		file(1, 9, blocks...),
		dir(entries[:3]...),
		dir(entries[:6]...),
		dir(entries[:0]...),
		dir(entries...),
		{Blocks: []int64{}, Entries: []impl.Entry{}},
		{Kind: impl.KindDir, Blocks: blocks[:0], Entries: entries[2:4]},
		{Kind: impl.KindFile, Links: 1, Size: 16, Blocks: blocks[:2], Entries: entries[:0]},
	}
	for _, c := range soundInodes() {
		all = append(all, c.inode)
	}
	for _, c := range append(append(kindCases(), fileCases()...), inodesOfSeveral()...) {
		all = append(all, c.inode)
	}
	return all
}

func TestInodePromiseOne(t *testing.T) {
	all := memoryInodes()
	for i, x := range all {
		checkCall(t, "InodeFault", impl.InodeFault, x)
		checkCall(t, "PackInode", impl.PackInode, x)
		checkCall(t, "SameInodes", impl.SameInodes, x, x)
		checkCall(t, "SameInodes", impl.SameInodes, x, all[(i+1)%len(all)])
	}
	for _, c := range dirCases() {
		checkCall(t, "InodeFault", impl.InodeFault, c.inode)
		checkCall(t, "PackInode", impl.PackInode, c.inode)
	}
}

func TestWordsPromiseOne(t *testing.T) {
	room := list(1, 1, 9, 4, 2, 0, 0, 2)
	all := [][]int64{nil, {}, room[:0], room[:0:0], room[:1], room[:3], room[:4], room[:5], room[:5:5], room[5:], room[5:7]}
	for _, c := range soundInodes() {
		all = append(all, c.words)
	}
	for _, c := range append(wordsCases(), textWords()...) {
		all = append(all, c.words)
	}
	for _, words := range all {
		checkCall(t, "UnpackInode", impl.UnpackInode, words)
	}
}

func TestBlocksForPromiseOne(t *testing.T) {
	for size := int64(-40); size <= 80; size++ {
		checkCall(t, "BlocksFor", impl.BlocksFor, size)
	}
}

// What is done with one answer is not seen in the next one, nor in what it
// was made of.
func TestInodesByTurns(t *testing.T) {
	words := list(1, 1, 9, 4, 2)
	first := impl.UnpackInode(words).Inode
	first.Blocks[0] = 11
	_ = append(first.Blocks[:1], 12)
	wantInode(t, "UnpackInode again", impl.UnpackInode(words), file(1, 9, 4, 2))

	x := file(1, 9, 4, 2)
	packed := impl.PackInode(x)
	packed.List[3] = 11
	wantWords(t, "PackInode again", impl.PackInode(x), list(1, 1, 9, 4, 2))

	d := impl.UnpackInode(list(2, 0, 0, 2, 3, 1, 97, 4, 1, 98)).Inode
	d.Entries[0].Name = "z"
	wantInode(t, "UnpackInode of a directory again", impl.UnpackInode(list(2, 0, 0, 2, 3, 1, 97, 4, 1, 98)), dir(entry("a", 3), entry("b", 4)))
}

// A call that could not read is followed by one that can.
func TestUnreadableThenReadable(t *testing.T) {
	for _, c := range textWords() {
		wantNoInode(t, c.what, impl.UnpackInode(c.words), impl.ErrText)
		wantInode(t, "behind "+c.what, impl.UnpackInode(list(1, 1, 9, 4, 2)), file(1, 9, 4, 2))
	}
}
