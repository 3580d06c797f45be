package tests

import (
	"testing"

	"loop.example/g00295/impl"
)

// memoryLists are lists with room behind their ends, in which faults stand
// that are not seen, lists of inodes that share memory, and such with faults.
func memoryLists() [][]impl.Inode {
	room := append(fiveFiles(), kind(3), dir(sixEntries()...), file(0, 0))
	blocks := list(4, 2, 7, 9, 11, 13)
	shared := inodes(dir(sixEntries()[:2]...), file(1, 16, blocks[:2]...), file(1, 16, blocks[2:4]...), file(1, 0, blocks[:0]...))
	all := [][]impl.Inode{nil, {}, room[:0], room[:0:0], room[:2], room[:5], room[:5:5], room[:6], room, shared, shared[:2], shared[1:3],
		inodes(file(1, 16, blocks[:2]...), file(1, 16, blocks[:2]...)), alike(10, dir()), alike(11, dir()), memoryInodes()[:8:8], memoryInodes()[8:11:11]}
	for _, c := range append(soundLists(), linksCases()...) {
		all = append(all, c.list)
	}
	return all
}

func memoryBusy() [][]int64 {
	room := append(upTo(20), 20, -1)
	return [][]int64{nil, {}, room[:0], room[:0:0], room[:3], room[:3:3], room[4:19], room[:19], room[:20], room[:21], room[20:], fill(20, 3), fill(21, 3)}
}

func TestFreePromiseOne(t *testing.T) {
	for i, all := range memoryLists() {
		checkCall(t, "UsedBlocks", impl.UsedBlocks, all)
		checkCall(t, "FreeInode", impl.FreeInode, all)
		for _, at := range list(-1, 0, 1, int64(len(all)), 1<<40) {
			checkCall(t, "LinksOf", impl.LinksOf, all, at)
		}
		for _, busy := range memoryBusy() {
			checkCall(t, "FreeBlocks", impl.FreeBlocks, all, busy)
			for n := int64(-1); n < 6; n++ {
				checkCall(t, "PickBlocks", impl.PickBlocks, all, busy, n)
			}
		}
		if t.Failed() {
			t.Fatal("at list ", i)
		}
	}
}

// An inode's blocks are handed in as busy ones, and what was picked as well.
func TestBusyThatShare(t *testing.T) {
	all := inodes(file(1, 16, 4, 2), file(1, 24, 0, 1, 5))
	checkCall(t, "FreeBlocks", impl.FreeBlocks, all, all[1].Blocks)
	checkCall(t, "PickBlocks", impl.PickBlocks, all, all[0].Blocks[:1], int64(4))
	first := impl.PickBlocks(all, all[1].Blocks, 4).List
	wantWords(t, "FreeBlocks", impl.FreeBlocks(all, first[:2]), without(0, 1, 2, 3, 4, 5, 6))
	second := impl.PickBlocks(all, first, 4).List
	if !same(first, list(3, 6, 7, 8)) || !same(second, list(9, 10, 11, 12)) {
		t.Error(first, second)
	}
}

// What is done with one answer is not seen in the next one.
func TestFreeByTurns(t *testing.T) {
	all, busy := inodes(dir(), file(1, 9, 0, 2)), list(1, 3)
	for range 2 {
		for _, r := range []impl.IntsResult{impl.UsedBlocks(all), impl.FreeBlocks(all, busy), impl.PickBlocks(all, busy, 2)} {
			for i := range r.List {
				r.List[i] = 19
			}
			_ = append(r.List[:1], 18)
		}
		wantWords(t, "UsedBlocks", impl.UsedBlocks(all), list(0, 2))
		wantWords(t, "FreeBlocks", impl.FreeBlocks(all, busy), without(0, 1, 2, 3))
		wantWords(t, "PickBlocks", impl.PickBlocks(all, busy, 2), list(4, 5))
	}
}
