package tests

import (
	"bytes"
	"fmt"
	"slices"
	"testing"

	"loop.example/g00295/impl"
)

// modelWorld is WorldFault, told another way: blocks are gone for file by file.
func modelWorld(w impl.World) int64 {
	code := firstCode(modelSeq(w.Disk).Code, modelFault(w.Live), modelFault(w.Kept), codeIf(len(w.Disk.Cache) > 0, impl.ErrForm))
	if code != impl.OK {
		return code
	}
	if !same(modelLoad(w.Disk), impl.FsResult{Fs: w.Kept}) {
		return impl.ErrState
	}
	for _, x := range w.Live.Inodes {
		for _, y := range w.Kept.Inodes {
			for _, at := range x.Blocks {
				if slices.Contains(y.Blocks, at) && !bytes.Equal(w.Live.Data[at], w.Kept.Data[at]) {
					return impl.ErrState
				}
			}
		}
	}
	return impl.OK
}

func modelWorldCall(w impl.World, c impl.Call) impl.WorldResult {
	if code := firstCode(modelWorld(w), impl.CallFault(c)); code != impl.OK {
		return impl.WorldResult{Code: code}
	}
	busy, _ := modelUsed(w.Kept.Inodes)
	m := modelOf(w.Live)
	told := m.do(c, busy)
	return impl.WorldResult{Call: told, World: impl.World{Disk: w.Disk, Live: m.fs(), Kept: w.Kept}}
}

func modelWorldSync(w impl.World) impl.WorldResult {
	p := modelSync(w.Disk, w.Live)
	if code := firstCode(modelWorld(w), p.Code); code != impl.OK {
		return impl.WorldResult{Code: code}
	}
	return impl.WorldResult{World: impl.World{Disk: modelRun(w.Disk, p.Steps).Disk, Live: w.Live, Kept: w.Live}}
}

// modelCut does the first n steps of a plan, and crashes, by hand.
func modelCut(d impl.Disk, p impl.StepsResult, n int64, picks []bool) impl.DiskResult {
	if code := firstCode(p.Code, codeIf(n < 0 || n > int64(len(p.Steps)), impl.ErrRange)); code != impl.OK {
		return impl.DiskResult{Code: code}
	}
	r := modelRun(d, p.Steps[:n])
	for i, put := range r.Disk.Cache {
		if i < len(picks) && picks[i] {
			r.Disk.Blocks[put.At] = put.Words
		}
	}
	r.Disk.Cache = nil
	return r
}

func modelCrashSync(w impl.World, n int64, picks []bool) impl.DiskResult {
	if code := modelWorld(w); code != impl.OK {
		return impl.DiskResult{Code: code}
	}
	return modelCut(w.Disk, modelSync(w.Disk, w.Live), n, picks)
}

func modelMountDisk(d impl.Disk) impl.WorldResult {
	flushed := modelRun(d, steps(flushStep()))
	plan := modelMount(flushed.Disk)
	if code := firstCode(flushed.Code, plan.Code); code != impl.OK {
		return impl.WorldResult{Code: code}
	}
	mounted := modelRun(flushed.Disk, plan.Steps).Disk
	image := modelLoad(mounted)
	if image.Code != impl.OK {
		return impl.WorldResult{Code: image.Code}
	}
	return impl.WorldResult{World: impl.World{Disk: mounted, Live: image.Fs, Kept: image.Fs}}
}

// checkMountDisk holds a mount against the model, and asks for the second half
// of promise 13: what is told is a world, or a code.
func checkMountDisk(t *testing.T, what string, d impl.Disk) impl.WorldResult {
	t.Helper()
	r := impl.MountDisk(d)
	if want := modelMountDisk(d); !same(r, want) {
		t.Fatalf("%s: MountDisk %v, not %v, of %v", what, r, want, d)
	}
	if r.Code == impl.OK {
		wantCode(t, what+": what is mounted", impl.WorldFault(r.World), impl.OK)
		wantCode(t, what+": what is mounted", impl.FsFault(r.World.Live), impl.OK)
	}
	return r
}

// checkAllOfWorld holds all that is told of a world against the model, and
// gives its fault.
func checkAllOfWorld(t *testing.T, x *dice, what string, w impl.World) int64 {
	t.Helper()
	code := impl.WorldFault(w)
	if want := modelWorld(w); code != want {
		t.Fatalf("%s: WorldFault %d, not %d, of %v", what, code, want, w)
	}
	c := diceCall(x, modelPaths(tree(dir(entry("a", 1)), dir(entry("b", 2)), dir())))
	if code == impl.OK {
		c = diceCall(x, modelPaths(w.Live))
	}
	if x.below(8) == 0 {
		c = impl.Call{Kind: x.below(13), Path: "/a", Size: x.below(2)}
	}
	if r, want := impl.CallWorld(w, c), modelWorldCall(w, c); !same(r, want) {
		t.Fatalf("%s: CallWorld of %v: %v, not %v", what, c, r, want)
	}
	if r, want := impl.SyncWorld(w), modelWorldSync(w); !same(r, want) {
		t.Fatalf("%s: SyncWorld: %v, not %v", what, r, want)
	}
	n := x.below(30) - 1
	picks := make([]bool, x.below(15))
	for i := range picks {
		picks[i] = x.below(2) == 1
	}
	if r, want := impl.CrashSync(w, n, picks), modelCrashSync(w, n, picks); !same(r, want) {
		t.Fatalf("%s: CrashSync at %d, picked %v: %v, not %v", what, n, picks, r, want)
	}
	return code
}

// checkCutMount holds a mount that is cut off against the model.
func checkCutMount(t *testing.T, what string, d impl.Disk, n int64, picks []bool) impl.DiskResult {
	t.Helper()
	r := impl.CrashMount(d, n, picks)
	want := modelCut(d, modelMount(d), n, picks)
	if !same(r, want) {
		t.Fatalf("%s: CrashMount at %d, picked %v: %v, not %v, of %v", what, n, picks, r, want, d)
	}
	return r
}

// diceTurnWorld turns one thing of a world: of its disk, of one of its file
// systems, or which of them is which.
func diceTurnWorld(x *dice, w *impl.World) {
	switch x.below(8) {
	case 0:
		diceTurnDisk(x, &w.Disk)
	case 1:
		diceFault(x, &w.Live)
	case 2:
		diceFault(x, &w.Kept)
	case 3:
		w.Kept = w.Live
	case 4:
		w.Live, w.Kept = w.Kept, w.Live
	case 5:
		w.Disk = imageDisk(5, w.Live)
	case 6:
		w.Live = diceBytes(x, ownFs(w.Kept))
	case 7:
		for _, held := range w.Live.Data {
			for i := range held {
				if x.below(20) == 0 {
					held[i] ^= 1
				}
			}
		}
	}
}

// ownWorld is a world in memory of its own.
func ownWorld(w impl.World) impl.World {
	own := impl.World{Disk: impl.Disk{Blocks: rackOfWords(w.Disk.Blocks)}, Live: ownFs(w.Live), Kept: ownFs(w.Kept)}
	for _, p := range w.Disk.Cache {
		own.Disk.Cache = append(own.Disk.Cache, putOf(p.At, copyOfWords(p.Words)...))
	}
	return own
}

func ownFs(f impl.Fs) impl.Fs {
	own := impl.Fs{Inodes: slices.Clone(f.Inodes)}
	for at, x := range f.Inodes {
		own.Inodes[at].Blocks, own.Inodes[at].Entries = slices.Clone(x.Blocks), slices.Clone(x.Entries)
	}
	for _, held := range f.Data {
		own.Data = append(own.Data, bytes.Clone(held))
	}
	return own
}

// diceWorld is a world, with no fault, that did not come of a new one: two file
// systems by dice, which have no block in common, or the one of which came of
// the other by calls.
func diceWorld(x *dice) impl.World {
	kept := diceBytes(x, shuffled(x, diceTree(x)))
	seq := []int64{1 + x.below(60000), 60000, 59999, 5}[min(x.below(12), 3)]
	if live, is := awayFrom(diceBytes(x, shuffled(x, diceTree(x))), kept); is && x.below(2) == 0 {
		return worldOf(seq, kept, live)
	}
	live := kept
	busy, _ := modelUsed(kept.Inodes)
	for range x.below(6) {
		live = impl.DoCall(live, diceCall(x, modelPaths(live)), busy).Fs
	}
	return worldOf(seq, kept, live)
}

func TestWorldsAgainstModel(t *testing.T) {
	x := dice(71)
	var count [11]int
	for row := range 3000 {
		w := ownWorld(diceWorld(&x))
		what := fmt.Sprint("row ", row)
		wantCode(t, what, impl.WorldFault(w), impl.OK)
		w.Disk = withOldJournal(w.Disk, row)
		for range x.below(4) {
			count[checkAllOfWorld(t, &x, what, w)]++
			w = ownWorld(w)
			diceTurnWorld(&x, &w)
		}
		count[checkAllOfWorld(t, &x, what, w)]++
	}
	wantCounts(t, count, impl.OK, impl.ErrForm, impl.ErrNone, impl.ErrState)
}

// diceMountDisk is a disk, right or spoilt, with a journal or without, and with
// puts in its cache.
func diceMountDisk(x *dice) impl.Disk {
	seq := []int64{1 + x.below(60000), 60000, 59999, 5}[x.below(4)]
	f := diceBytes(x, shuffled(x, diceTree(x)))
	d := imageDisk(seq, f)
	switch x.below(6) {
	case 0, 1, 2:
		// A journal of another file system, which has the same data.
		rows := journalRows(seq, modelInodePuts(impl.Fs{Inodes: shuffledNames(x, f), Data: f.Data})...)
		for range x.below(4) / 2 {
			diceTurnJournal(x, rows)
		}
		d = withJournal(d, rows...)
	case 3:
		d = withJournal(d, diceJournal(x, seq)...)
	}
	for range x.below(4) {
		diceTurnDisk(x, &d)
	}
	// Of a few or of many blocks what stands there is put again.
	for range []int64{0, x.below(20), 185 + x.below(15)}[x.below(3)] {
		if at := x.below(47); len(d.Cache) < 200 {
			d.Cache = append(d.Cache, putOf(at, copyOfWords(standing(d, at))...))
		}
	}
	return d
}

// Whatever stands on a disk: what is mounted is whole, whether the mount is cut
// off or not.
func TestMountsAgainstModel(t *testing.T) {
	x := dice(72)
	var count, cutCount [11]int
	var found int
	for row := range 6000 {
		d := diceMountDisk(&x)
		what := fmt.Sprint("row ", row)
		if impl.ScanJournal(d).Found {
			found++
		}
		count[checkMountDisk(t, what, d).Code]++
		checkLoad(t, what, d)
		for range 2 {
			n := x.below(15) - 1
			ways := waysToPick(&x, len(d.Cache)+int(x.below(12)))
			r := checkCutMount(t, what, d, n, ways[x.below(int64(len(ways)))])
			cutCount[r.Code]++
			if r.Code == impl.OK {
				checkMountDisk(t, what+", cut off", r.Disk)
			}
		}
	}
	wantCounts(t, count, impl.OK, impl.ErrForm, impl.ErrText, impl.ErrNone)
	wantCounts(t, cutCount, impl.OK, impl.ErrText, impl.ErrMany, impl.ErrRange)
	if found < 1000 {
		t.Errorf("%d journals were found", found)
	}
}

// shuffledNames are the inodes of a file system by other names.
func shuffledNames(x *dice, f impl.Fs) []impl.Inode {
	all := slices.Clone(f.Inodes)
	for at := range all {
		all[at].Entries = slices.Clone(all[at].Entries)
		for i := range all[at].Entries {
			all[at].Entries[i].Name += "z"[:x.below(2)]
			if len(all[at].Entries[i].Name) > 4 {
				all[at].Entries[i].Name = all[at].Entries[i].Name[:4]
			}
		}
	}
	return all
}

// Disks of a world of which one word is turned, one at a time: to be mounted
// and to be a world's. What is told is whole, or a code.
func TestEachWordOfAWorldTurned(t *testing.T) {
	x := dice(73)
	var count, faults [11]int
	w := worldOf(5, turnedTree(), turnedTree())
	w = askAll(t, w, write("/a", 3, "new"), call(impl.CallMake, "/b/n"), write("/b/n", 0, "bytes"))
	p := impl.PlanSync(w.Disk, w.Live).Steps
	for _, n := range list(0, int64(len(p)/2), int64(len(p)-3), int64(len(p))) {
		d := cutSync(t, w, n, true, true)
		for at, words := range d.Blocks {
			turned := impl.World{Disk: impl.Disk{Blocks: rackOfWords(d.Blocks)}, Live: w.Live, Kept: w.Kept}
			for place := range words {
				for _, word := range list(0, 1, 2, 3, 5, 6, 9, 10, 17, 20, 97, 255, 256, 60000, 60001, 65535, words[place]+1, words[place]-1) {
					turned.Disk.Blocks[at][place] = word
					what := fmt.Sprintf("cut off at %d, word %d of block %d is %d", n, place, at, word)
					count[checkMountDisk(t, what, turned.Disk).Code]++
					code := impl.WorldFault(turned)
					if code != modelWorld(turned) {
						t.Fatalf("%s: WorldFault %d", what, code)
					}
					faults[code]++
				}
				turned.Disk.Blocks[at][place] = words[place]
			}
			turned.Disk.Blocks[at] = append(copyOfWords(words), x.below(10))
			checkMountDisk(t, fmt.Sprint("a word more in ", at), turned.Disk)
			turned.Disk.Blocks[at] = words[:max(len(words)-1, 0)]
			checkMountDisk(t, fmt.Sprint("a word less in ", at), turned.Disk)
		}
	}
	wantCounts(t, count, impl.OK, impl.ErrForm, impl.ErrText)
	wantCounts(t, faults, impl.OK, impl.ErrState, impl.ErrText)
}
