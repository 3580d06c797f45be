package tests

import (
	"math"
	"testing"

	"loop.example/g00295/impl"
)

// checkLookCalls asks all functions of chapter 15 that take a file system for
// promise 1.
func checkLookCalls(t *testing.T, what string, f impl.Fs, busy []int64, places ...int64) {
	t.Helper()
	found := checkCall(t, what+": FindingsOf", impl.FindingsOf, f).(impl.IntsResult)
	repaired := checkCall(t, what+": RepairFs", impl.RepairFs, f).(impl.FsResult)
	code := modelLookCode(f)
	wantCode(t, what+": FindingsOf", found.Code, code)
	wantCode(t, what+": RepairFs", repaired.Code, code)
	checkCall(t, what+": RoomOf", impl.RoomOf, f, busy)
	for _, at := range places {
		checkCall(t, what+": HeldBy", impl.HeldBy, f, at)
	}
}

func TestLookPromiseOne(t *testing.T) {
	busy := memoryBusy()
	for i, f := range memoryTrees() {
		checkLookCalls(t, "a file system", f, busy[i%len(busy)], -1, 0, 3, 4, 19, 20)
		if len(f.Inodes) <= 10 {
			checkCall(t, "CheckDisk", impl.CheckDisk, imageDisk(5, f))
		}
		if t.Failed() {
			t.Fatal("at file system ", i)
		}
	}
	for i, c := range allLookCases() {
		checkLookCalls(t, c.what, c.fs, busy[i%len(busy)], 3, 4, 5)
		checkLookCalls(t, c.what+", repaired", c.repaired, busy[i%len(busy)], 3, 4, 5)
	}
	for _, c := range faultyTrees() {
		checkLookCalls(t, c.what, c.fs, nil, 0, 7)
	}
	for _, b := range busy {
		checkCall(t, "RoomOf", impl.RoomOf, turnedTree(), b)
	}
	for _, b := range append(wrongBusy(), wrongBusy()[:1]...) {
		checkCall(t, "RoomOf, "+b.what, impl.RoomOf, turnedTree(), b.busy)
	}
}

// roomyLook is a broken file system whose lists share memory with one another,
// and have room behind their ends.
func roomyLook() impl.Fs {
	entries := []impl.Entry{entry("a", 1), entry("b", 2), entry("c", 2), entry("d", 3), entry("e", 9), entry("f", 0)}
	blocks := list(3, 4, 5, 6, 7)
	long := append(make([]byte, 0, 40), "abcdefghijklmnopqrstuvwxyz"...)
	f := impl.Fs{Inodes: make([]impl.Inode, 4, 12), Data: make([][]byte, 20, 30)}
	f.Inodes[0], f.Inodes[2] = dir(entries[:5]...), dir(entries[:2]...)
	f.Inodes[1] = impl.Inode{Kind: impl.KindFile, Links: 1, Size: 16, Blocks: blocks[:2]}
	f.Inodes[3] = impl.Inode{Kind: impl.KindFile, Links: 7, Size: 20, Blocks: blocks[1:4]}
	for at := range f.Data {
		f.Data[at] = long[at%5 : at%5+at%10]
	}
	f.Data[20:21][0] = []byte("behind")
	return f
}

func TestLooksThatShare(t *testing.T) {
	f := roomyLook()
	wantCode(t, "roomy", modelLookCode(f), impl.OK)
	checkLookCalls(t, "roomy", f, list(1), 3, 4)
	checkLook(t, "roomy", f)
	one := impl.RepairFs(f).Fs
	other := impl.RepairFs(f).Fs
	for at := range one.Data {
		one.Data[at] = append(one.Data[at], 'x')
		for i := range one.Data[at] {
			one.Data[at][i] = '!'
		}
	}
	for at, x := range one.Inodes {
		one.Inodes[at].Blocks = append(x.Blocks, 19)
		one.Inodes[at].Entries = append(x.Entries, entry("zzzz", 9))
		for i := range x.Blocks {
			x.Blocks[i] = 17
		}
		for i := range x.Entries {
			x.Entries[i] = entry("spoi", 8)
		}
	}
	wantFs(t, "the other one", impl.RepairFs(f), other)
	if !same(f, roomyLook()) {
		t.Errorf("the argument turned: %v", f)
	}
	for at := range other.Inodes {
		// Room behind one list is not that of another one.
		_ = append(append(other.Inodes[at].Blocks, 19), 19)
		_ = append(other.Inodes[at].Entries, entry("zzzz", 9))
	}
	wantFs(t, "room behind lists", impl.RepairFs(f), other)
}

// What is found is a list of its own, again and again.
func TestLooksByTurns(t *testing.T) {
	c := manyFindings()
	d := imageDisk(5, turnedTree())
	for range 3 {
		r := impl.FindingsOf(c.fs)
		wantWords(t, "FindingsOf", r, c.found)
		r.List[0], r.List[4] = 77, 88
		checked := impl.CheckDisk(d)
		wantWords(t, "CheckDisk", checked, list(0, 0, 0, 0, 0))
		checked.List[2] = 99
		wantNumber(t, "RoomOf", impl.RoomOf(turnedTree(), list(0)), 15)
		wantText(t, "HeldBy", impl.HeldBy(turnedTree(), 6), "/b/a")
	}
}

func TestLooksAtFarArguments(t *testing.T) {
	far := list(math.MinInt64, math.MinInt64+1, -1<<32, -1, 0, 1, 2, 9, 10, 19, 20, 21, 60, 61, 1<<32, 1<<32+1, math.MaxInt64-1, math.MaxInt64)
	for _, n := range far {
		f := tree(dir(entry("a", 1), entry("b", 2)), file(1, 9, 3, 4), dir(entry("a", 1)))
		checkCall(t, "HeldBy", impl.HeldBy, turnedTree(), n)
		checkCall(t, "RoomOf", impl.RoomOf, turnedTree(), list(n))
		for what, do := range map[string]func(f *impl.Fs){
			"a kind":        func(f *impl.Fs) { f.Inodes[1].Kind = n },
			"links":         func(f *impl.Fs) { f.Inodes[1].Links = n },
			"a size":        func(f *impl.Fs) { f.Inodes[1].Size = n },
			"a block":       func(f *impl.Fs) { f.Inodes[1].Blocks[1] = n },
			"an entry":      func(f *impl.Fs) { f.Inodes[0].Entries[1].Inode = n },
			"one below":     func(f *impl.Fs) { f.Inodes[2].Entries[0].Inode = n },
			"the first one": func(f *impl.Fs) { f.Inodes[0].Kind = n },
		} {
			g := ownFs(f)
			do(&g)
			checkLookCalls(t, what, g, list(n), 3, n)
			checkLook(t, what, g)
		}
		d := imageDisk(5, f)
		d.Blocks[18] = list(1, 1, 9, n, 4)
		checkCall(t, "CheckDisk", impl.CheckDisk, d)
		d.Blocks[0] = list(7, n)
		checkCall(t, "CheckDisk", impl.CheckDisk, d)
	}
	many := tree(append(inodes(dir()), alike(3000, kind(0))...)...)
	checkLookCalls(t, "many inodes", many, nil, 0)
	checkLookCalls(t, "many Data", impl.Fs{Inodes: inodes(dir()), Data: emptyData(3000)}, nil, 0)
	long := tree(dir(entry("a", 1)), file(1, 9, 3, 4))
	long.Data[3], long.Data[9] = make([]byte, 70000), make([]byte, 70000)
	checkLookCalls(t, "many bytes", long, nil, 3)
	checkLook(t, "many bytes", long)
	checkLookCalls(t, "many busy", turnedTree(), fill(70000, 3), 3)
	checkCall(t, "CheckDisk", impl.CheckDisk, impl.Disk{Blocks: emptyBlocks(3000)})
}

// Nil and empty lists are the same value, in what is asked and in what is
// answered.
func TestLooksOfEmptyLists(t *testing.T) {
	top := impl.Inode{Kind: impl.KindDir, Blocks: []int64{}, Entries: []impl.Entry{}}
	f := impl.Fs{Inodes: inodes(top, impl.Inode{Blocks: []int64{}, Entries: []impl.Entry{}}), Data: emptyData(20)}
	wantLook(t, "empty lists", f, list(0, 0, 0, 0, 0), tree(dir(), kind(0)))
	wantNumber(t, "empty lists", impl.RoomOf(f, list()), 20)
	wantNoText(t, "empty lists", impl.HeldBy(f, 0), impl.ErrNone)
	checkLookCalls(t, "empty lists", f, list(), 0)
	checkLookCalls(t, "no lists", impl.Fs{}, nil, 0)
	checkLookCalls(t, "lists of none", impl.Fs{Inodes: inodes(), Data: [][]byte{}}, list(), 0)
	for _, d := range []impl.Disk{{}, {Blocks: [][]int64{}, Cache: puts()}, {Blocks: emptyBlocks(47)}} {
		checkCall(t, "CheckDisk", impl.CheckDisk, d)
	}
	d := impl.Disk{Blocks: emptyBlocks(47), Cache: puts()}
	d.Blocks[0], d.Blocks[17] = list(7, 5), list(2, 0, 0, 0)
	wantWords(t, "empty blocks", checkCall(t, "CheckDisk", impl.CheckDisk, d).(impl.IntsResult), list(0, 0, 0, 0, 0))
}

// Disks of all kinds, with a journal and with puts in Cache.
func TestCheckDiskPromiseOne(t *testing.T) {
	for _, c := range memoryDisks() {
		checkCall(t, c.what, impl.CheckDisk, c.disk)
	}
	for _, c := range diskTurns() {
		d := imageDisk(5, turnedTree())
		c.do(&d)
		checkCall(t, c.what, impl.CheckDisk, d)
		checkCall(t, c.what, impl.CheckDisk, withJournal(d, journalRows(5, modelInodePuts(turnedTree())...)...))
	}
	for count := range 11 {
		d := withJournal(imageDisk(5, turnedTree()), journalRows(5, modelInodePuts(turnedTree())[:count]...)...)
		d.Cache = append(make([]impl.Put, 0, 9), putOf(45), impl.Put{At: 46, Words: d.Blocks[1][:1]})
		checkCall(t, "a journal", impl.CheckDisk, d)
	}
	w := askAll(t, worldOf(5, turnedTree(), turnedTree()), write("/a", 3, "new"), rename("/b/a", "/c"))
	for n := range int64(len(impl.PlanSync(w.Disk, w.Live).Steps)) + 1 {
		checkCall(t, "cut off", impl.CheckDisk, cutSync(t, w, n, true, false, true))
	}
}
