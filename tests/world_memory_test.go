package tests

import (
	"math"
	"slices"
	"testing"

	"loop.example/g00295/impl"
)

// checkWorldCalls asks all functions of chapter 14 that take a world for
// promise 1.
func checkWorldCalls(t *testing.T, what string, w impl.World, calls ...impl.Call) {
	t.Helper()
	code := checkCall(t, what+": WorldFault", impl.WorldFault, w)
	if code != modelWorld(w) {
		t.Errorf("%s: WorldFault %v, not %d", what, code, modelWorld(w))
	}
	for _, c := range calls {
		checkCall(t, what+": CallWorld", impl.CallWorld, w, c)
	}
	checkCall(t, what+": SyncWorld", impl.SyncWorld, w)
	room := []bool{true, false, true, true, true}
	for i, n := range list(0, 1, 2, 5, 9, 13, 49, -1) {
		checkCall(t, what+": CrashSync", impl.CrashSync, w, n, [][]bool{nil, {}, room[:0], room[:3], room, slices.Repeat(room, 50)}[i%6])
	}
	checkMountCalls(t, what, w.Disk)
}

func checkMountCalls(t *testing.T, what string, d impl.Disk) {
	t.Helper()
	room := []bool{true, false, true, true, true}
	checkCall(t, what+": MountDisk", impl.MountDisk, d)
	for i, n := range list(0, 1, 3, 4, 12, -1) {
		checkCall(t, what+": CrashMount", impl.CrashMount, d, n, [][]bool{room[:2], nil, room, {}, slices.Repeat(room, 50), room[:0]}[i%6])
	}
}

func TestWorldPromiseOne(t *testing.T) {
	calls := memoryCalls(names("/a", "/b/c", "/x", "/"))
	for i, f := range memoryTrees() {
		some := calls[i%7 : i%7+3]
		checkWorldCalls(t, "live", impl.World{Disk: formatted(t, 5), Live: f, Kept: tree(dir())}, some...)
		checkWorldCalls(t, "kept", impl.World{Disk: formatted(t, 5), Live: tree(dir()), Kept: f}, some...)
		if len(f.Inodes) <= 10 {
			// Both have the same memory.
			checkWorldCalls(t, "both", worldOf(5, f, f), some...)
			checkWorldCalls(t, "all gone", worldOf(5, f, tree(dir())), some...)
		}
		if t.Failed() {
			t.Fatal("at file system ", i)
		}
	}
	x := dice(91)
	for i, c := range imageTrees() {
		live := impl.DoCall(c.fs, diceCall(&x, modelPaths(c.fs)), impl.BusyOf(c.fs).List).Fs
		w := worldOf(5, c.fs, live)
		w.Disk = withOldJournal(w.Disk, i)
		checkWorldCalls(t, c.what, w, diceCall(&x, modelPaths(live)), calls[i%len(calls)])
	}
	for _, c := range memoryDisks() {
		checkWorldCalls(t, c.what, impl.World{Disk: c.disk, Live: tree(dir()), Kept: tree(dir())}, calls[0])
	}
	for _, c := range diskTurns() {
		w := worldOf(5, turnedTree(), turnedTree())
		c.do(&w.Disk)
		checkWorldCalls(t, c.what, w, calls[0])
		checkMountCalls(t, c.what, withJournal(w.Disk, journalRows(5, modelInodePuts(turnedTree())...)...))
	}
}

// Calls of each kind, done and come to nothing, and such as have a fault.
func TestWorldsPromiseOneOfCalls(t *testing.T) {
	w := worldOf(5, turnedTree(), turnedTree())
	for _, c := range memoryCalls(names("/", "/a", "/b", "/b/a", "/c", "/q/q", "", "/A")) {
		r := checkCall(t, "CallWorld", impl.CallWorld, w, c).(impl.WorldResult)
		if want := modelWorldCall(w, c); !same(r, want) {
			t.Errorf("CallWorld %v: %v, not %v", c, r, want)
		}
		if !same(r.Call.Fs, impl.Fs{}) {
			t.Errorf("CallWorld %v: the call has a file system: %v", c, r.Call)
		}
	}
	for _, text := range memoryTexts() {
		for number := int64(0); number < 13; number++ {
			checkCall(t, "CallWorld", impl.CallWorld, w, call(number, text))
		}
		checkCall(t, "CallWorld", impl.CallWorld, w, rename("/a", text))
		checkCall(t, "CallWorld", impl.CallWorld, w, link("/a", text))
	}
}

// Journals that are found, of disks with puts that wait, and such as have room
// behind the ends of their lists.
func TestMountsPromiseOne(t *testing.T) {
	for count := range 11 {
		d := withJournal(imageDisk(5, turnedTree()), journalRows(5, somePuts(count)...)...)
		checkMountCalls(t, "a journal", d)
		whole := withJournal(imageDisk(5, turnedTree()), journalRows(5, modelInodePuts(turnedTree())[:count]...)...)
		checkMountCalls(t, "a journal that is right", whole)
		whole.Cache = append(make([]impl.Put, 0, 9), putOf(33, 97), putOf(45, whole.Blocks[33]...), putOf(45), impl.Put{At: 46, Words: whole.Blocks[1][:1]})
		checkMountCalls(t, "puts that share", whole)
		whole.Cache = slices.Repeat(puts(putOf(44, 1, 2)), 200)
		checkMountCalls(t, "a full cache", whole)
	}
}

func TestWorldsAtFarArguments(t *testing.T) {
	far := list(math.MinInt64, math.MinInt64+1, -1<<32, -1, 0, 1, 2, 12, 13, 14, 59999, 60000, 60001, 1<<32, 1<<32+1, math.MaxInt64-1, math.MaxInt64)
	w := worldOf(5, tree(dir()), tree(dir(entry("a", 1)), file(1, 3, 7)))
	found := withJournal(formatted(t, 5), journalRows(5, putOf(17, 2, 0, 0, 0))...)
	for _, n := range far {
		checkCall(t, "NewWorld", impl.NewWorld, n)
		checkCall(t, "CrashSync", impl.CrashSync, w, n, []bool{true})
		checkCall(t, "CrashMount", impl.CrashMount, found, n, []bool{true})
		turned := ownWorld(w)
		turned.Disk.Blocks[0] = list(7, n)
		checkWorldCalls(t, "a number", turned, call(impl.CallMake, "/x"))
		turned = ownWorld(w)
		turned.Disk.Blocks[17] = list(2, 0, 0, n)
		checkWorldCalls(t, "an inode", turned)
		turned = ownWorld(w)
		turned.Live.Inodes[1].Blocks[0] = n
		checkWorldCalls(t, "a block", turned)
		turned = ownWorld(w)
		turned.Live.Inodes[0].Entries[0].Inode = n
		checkWorldCalls(t, "an entry", turned)
		turned = ownWorld(w)
		turned.Live.Inodes[1].Size, turned.Kept.Inodes[0].Links = n, n
		checkWorldCalls(t, "a size", turned)
		for _, c := range []impl.Call{{Kind: n}, read("/a", n, n), cut("/a", n), write("/a", n, "x")} {
			checkCall(t, "CallWorld", impl.CallWorld, w, c)
		}
	}
	checkWorldCalls(t, "nothing", impl.World{}, impl.Call{})
	checkWorldCalls(t, "empty lists", impl.World{Disk: impl.Disk{Blocks: [][]int64{}, Cache: puts()}, Live: impl.Fs{Inodes: inodes(), Data: [][]byte{}}, Kept: impl.Fs{Inodes: inodes(), Data: [][]byte{}}}, impl.Call{Data: []byte{}})
	checkWorldCalls(t, "empty blocks", impl.World{Disk: impl.Disk{Blocks: emptyBlocks(47)}})
	checkWorldCalls(t, "many words", impl.World{Disk: impl.Disk{Blocks: [][]int64{fill(70000, 7)}}})
	many := ownWorld(w)
	many.Live = tree(append(inodes(dir()), alike(3000, kind(0))...)...)
	checkWorldCalls(t, "many inodes", many)
	many = ownWorld(w)
	many.Live.Data = append(many.Live.Data, emptyData(3000)...)
	checkWorldCalls(t, "many Data", many)
}

// Nil and empty lists are the same value, in what is asked and in what is
// answered.
func TestWorldsOfEmptyLists(t *testing.T) {
	top := impl.Fs{Inodes: inodes(impl.Inode{Kind: impl.KindDir, Blocks: []int64{}, Entries: []impl.Entry{}}), Data: emptyData(20)}
	w := impl.World{Disk: impl.Disk{Blocks: emptyBlocks(47), Cache: puts()}, Live: top, Kept: top}
	w.Disk.Blocks[0], w.Disk.Blocks[17] = list(7, 5), list(2, 0, 0, 0)
	plain := newWorld(t, 5)
	if !same(w, plain) {
		t.Fatalf("%v, not %v", w, plain)
	}
	for _, one := range []impl.World{w, plain} {
		wantCode(t, "WorldFault", impl.WorldFault(one), impl.OK)
		wantWorld(t, "SyncWorld", impl.SyncWorld(one), plain)
		wantWorld(t, "MountDisk", impl.MountDisk(one.Disk), plain)
		wantDisk(t, "CrashSync", cutSync(t, one, 0), plain.Disk)
		wantDisk(t, "CrashSync", cutSync(t, one, 0, []bool{}...), plain.Disk)
		wantDisk(t, "CrashMount", cutMount(t, one.Disk, 0, []bool{}...), plain.Disk)
		made := askAll(t, one, impl.Call{Kind: impl.CallMake, Path: "/a", Data: []byte{}})
		if !same(made.Live, tree(dir(entry("a", 1)), file(1, 0))) {
			t.Errorf("made: %v", made.Live)
		}
	}
}

// What is done with a part of an answer is not seen in another part of it.
func TestWorldsThatShare(t *testing.T) {
	spoil := func(f impl.Fs) {
		f.Inodes[0].Entries[0] = entry("spoilt", 9)
		f.Inodes[1].Blocks[0] = 99
		f.Inodes[2] = impl.Inode{}
		f.Data[8][0] = '!'
	}
	for what, r := range map[string]impl.WorldResult{
		"SyncWorld": impl.SyncWorld(worldOf(5, tree(dir()), turnedTree())),
		"MountDisk": impl.MountDisk(imageDisk(5, turnedTree())),
		"CallWorld": impl.CallWorld(worldOf(5, turnedTree(), turnedTree()), call(impl.CallStat, "/a")),
	} {
		w := worldOf(5, turnedTree(), turnedTree())
		disk := impl.Disk{Blocks: rackOfWords(r.World.Disk.Blocks)}
		spoil(r.World.Live)
		if !same(r.World.Kept, w.Kept) {
			t.Errorf("%s: Live and Kept share: %v", what, r.World.Kept)
		}
		spoil(r.World.Kept)
		wantDisk(t, what+": the disk", r.World.Disk, disk)
	}
	one := impl.NewWorld(5).World
	one.Live.Inodes[0].Kind = 9
	one.Disk.Blocks[17][0] = 9
	other := impl.NewWorld(5).World
	if one.Kept.Inodes[0].Kind != impl.KindDir || impl.WorldFault(other) != impl.OK {
		t.Errorf("NewWorld shares: %v, %v", one, other)
	}
}

// A world is kept in several hands: what comes of it is not seen in it.
func TestWorldsByTurns(t *testing.T) {
	w := askAll(t, newWorld(t, 5), call(impl.CallMake, "/a"), write("/a", 0, "first"))
	w = syncOf(t, w)
	w = askAll(t, w, write("/a", 0, "other"), call(impl.CallDir, "/d"))
	before := ownWorld(w)
	var last impl.World
	for turn := range 3 {
		r := impl.CallWorld(w, rename("/a", "/d/b"))
		synced := syncOf(t, w)
		cut := cutSync(t, w, 9, true, false, true)
		mounted := mountOf(t, "by turns", cut)
		if turn > 0 && !same(synced, last) {
			t.Errorf("turn %d: %v, not %v", turn, synced, last)
		}
		last = ownWorld(synced)
		r.World.Live.Inodes[1].Size, r.World.Kept.Data[0] = 99, nil
		synced.Live.Inodes, synced.Disk.Blocks[17] = nil, nil
		synced.Kept.Inodes[0].Entries[0].Inode = 7
		cut.Blocks[18][0], mounted.Live.Inodes[0].Kind = 9, 0
		mounted.Disk.Blocks[0][1]++
		if !same(w, before) {
			t.Fatalf("turn %d: the world turned: %v, not %v", turn, w, before)
		}
	}
}
