package tests

import (
	"testing"

	"loop.example/g00295/impl"
)

// memoryTrees are file systems with room behind the ends of their lists, such
// whose lists share memory, and such with faults.
func memoryTrees() []impl.Fs {
	long := make([]byte, 40)
	room := tree(dir(entry("a", 1), entry("b", 2)), file(1, 9, 3, 4), dir(), kind(3), file(0, 0))
	room.Inodes, room.Data = room.Inodes[:3], append(room.Data, make([]byte, 9))[:20]
	room.Data[5], room.Data[3] = long[:0], append(make([]byte, 0, 30), "abcdefgh"...)

	blocks, entries := list(3, 4, 5, 6), sixEntries()
	shared := tree(dir(entries[:2]...), file(1, 9, blocks[:2]...), file(1, 16, blocks[2:]...))
	for i, at := range blocks {
		shared.Data[at] = long[i : i+8]
	}
	shared.Data[4] = long[:1]
	named := tree(dir(entries[:1]...), dir(entries[:1]...), file(1, 0))

	all := []impl.Fs{{}, {Inodes: inodes(), Data: [][]byte{}}, {Inodes: inodes(dir())}, {Data: make([][]byte, 20)}, room, shared, named,
		tree(dir(entry("a", 1)), file(1, 0), kind(0)), tree(append(inodes(dir()), alike(10, kind(0))...)...),
		{Inodes: inodes(dir(entry("a", 1), entry("b", 2)), file(1, 8, 1), file(1, 8, 1)), Data: make([][]byte, 20)},
		{Inodes: inodes(dir(entry("a", 9))), Data: make([][]byte, 20)}, {Inodes: inodes(dir()), Data: [][]byte{long}},
		{Inodes: inodes(dir()), Data: append(make([][]byte, 19), long)}}
	for _, inode := range memoryInodes()[:11:11] {
		all = append(all, impl.Fs{Inodes: inodes(dir(), inode), Data: make([][]byte, 20)})
	}
	for _, c := range append(wholeTrees(), brokenTrees()...) {
		all = append(all, c.fs)
	}
	return all
}

func TestTreePromiseOne(t *testing.T) {
	all := memoryTrees()
	wantCode(t, "room behind the ends", impl.FsFault(all[4]), impl.OK)
	wantCode(t, "lists that share memory", impl.FsFault(all[5]), impl.OK)
	for i, f := range all {
		checkCall(t, "FsFault", impl.FsFault, f)
		checkCall(t, "ReachOf", impl.ReachOf, f)
		checkCall(t, "SameFs", impl.SameFs, f, f)
		checkCall(t, "SameFs", impl.SameFs, f, all[(i+1)%len(all)])
		checkCall(t, "NewFs", impl.NewFs, f.Data)
		for _, at := range list(-1<<40, -1, 0, 1, 2, 3, int64(len(f.Inodes)), 1<<40) {
			checkCall(t, "BytesIn", impl.BytesIn, f, at)
		}
		if t.Failed() {
			t.Fatal("at file system ", i)
		}
	}
}

func TestNewFsPromiseOne(t *testing.T) {
	long := make([]byte, 40)
	room := append(emptyData(25), long)
	full := emptyData(2)
	for len(full) < 25 {
		full = append(full, long[:1])
	}
	for _, data := range [][][]byte{nil, {}, room[:0], room[:0:0], room[:3], room[:19], room[:20], room[:20:20], room[:21], room, room[20:], full[:0], full[:1], full[:2], full[:3],
		{long}, {long[:9]}, {long[:8]}, {long[:0], long[3:3], long[:0:0]}, {nil, {}, nil}, emptyData(70000)} {
		checkCall(t, "NewFs", impl.NewFs, data)
	}
}

// What is done with one answer is not seen in the next one.
func TestTreesByTurns(t *testing.T) {
	data := emptyData(3)
	f := tree(dir(entry("a", 1)), file(1, 9, 3, 4))
	for range 2 {
		fresh := impl.NewFs(data)
		if !same(fresh, impl.FsResult{Fs: tree(dir())}) {
			t.Error(fresh)
		}
		fresh.Fs.Inodes[0].Entries = append(fresh.Fs.Inodes[0].Entries, entry("x", 5))
		fresh.Fs.Inodes[0].Kind = 1
		for at := range fresh.Fs.Data {
			fresh.Fs.Data[at] = append(fresh.Fs.Data[at], byte(at))
		}
		for at, held := range fresh.Fs.Data {
			if len(held) != 1 || held[0] != byte(at) {
				t.Errorf("block %d is %v", at, held)
			}
		}
		read := impl.BytesIn(f, 1)
		if !same(read.Bytes, textOf(1, 9)) {
			t.Error(read)
		}
		read.Bytes[0]++
		read.Bytes[8]++
		reach := impl.ReachOf(f)
		wantWords(t, "ReachOf", reach, list(0, 1))
		reach.List[0] = 7
		wantCode(t, "FsFault", impl.FsFault(f), impl.OK)
	}
}
