package tests

import (
	"fmt"
	"slices"
	"testing"

	"loop.example/g00295/impl"
)

// The names and signatures of chapter 14, as the document has them.
var (
	_ func(impl.World) int64                          = impl.WorldFault
	_ func(int64) impl.WorldResult                    = impl.NewWorld
	_ func(impl.World, impl.Call) impl.WorldResult    = impl.CallWorld
	_ func(impl.World) impl.WorldResult               = impl.SyncWorld
	_ func(impl.World, int64, []bool) impl.DiskResult = impl.CrashSync
	_ func(impl.Disk, int64, []bool) impl.DiskResult  = impl.CrashMount
	_ func(impl.Disk) impl.WorldResult                = impl.MountDisk
	_                                                 = impl.World{Disk: impl.Disk{}, Live: impl.Fs{}, Kept: impl.Fs{}}
	_                                                 = impl.WorldResult{Code: int64(0), Call: impl.CallResult{}, World: impl.World{}}
)

// worldOf is a world on whose disk just what was kept stands.
func worldOf(seq int64, kept, live impl.Fs) impl.World {
	return impl.World{Disk: imageDisk(seq, kept), Live: live, Kept: kept}
}

// worldIn is the world of an answer that has nothing beside it.
func worldIn(t *testing.T, what string, r impl.WorldResult) impl.World {
	t.Helper()
	if !same(r, impl.WorldResult{World: r.World}) {
		t.Fatalf("%s: %v is not a world alone", what, r)
	}
	wantCode(t, what+": WorldFault", impl.WorldFault(r.World), impl.OK)
	return r.World
}

func wantWorld(t *testing.T, what string, r impl.WorldResult, want impl.World) {
	t.Helper()
	if !same(r, impl.WorldResult{World: want}) {
		t.Errorf("%s: %v, not %v", what, r, want)
	}
}

func wantNoWorld(t *testing.T, what string, r impl.WorldResult, code int64) {
	t.Helper()
	if !same(r, impl.WorldResult{Code: code}) {
		t.Errorf("%s: %v, not code %d alone", what, r, code)
	}
}

func newWorld(t *testing.T, seq int64) impl.World {
	t.Helper()
	return worldIn(t, "NewWorld", impl.NewWorld(seq))
}

// ask has a call done in a world, which answers want beside the world.
func ask(t *testing.T, w impl.World, c impl.Call, want impl.CallResult) impl.World {
	t.Helper()
	r := impl.CallWorld(w, c)
	if r.Code != impl.OK || !same(r.Call, want) {
		t.Fatalf("%v: %v, not %v", c, r, want)
	}
	wantCode(t, fmt.Sprint(c, ": WorldFault"), impl.WorldFault(r.World), impl.OK)
	if !same(r.World.Disk, w.Disk) || !same(r.World.Kept, w.Kept) {
		t.Errorf("%v turned %v into %v", c, w, r.World)
	}
	return r.World
}

// askAll has calls done, whatever they answer, but none comes to nothing.
func askAll(t *testing.T, w impl.World, all ...impl.Call) impl.World {
	t.Helper()
	for _, c := range all {
		r := impl.CallWorld(w, c)
		if r.Code != impl.OK || r.Call.Reply != impl.OK {
			t.Fatalf("%v: code %d, reply %d", c, r.Code, r.Call.Reply)
		}
		w = r.World
	}
	wantCode(t, "behind calls", impl.WorldFault(w), impl.OK)
	return w
}

func syncOf(t *testing.T, w impl.World) impl.World {
	t.Helper()
	return worldIn(t, "SyncWorld", impl.SyncWorld(w))
}

func mountOf(t *testing.T, what string, d impl.Disk) impl.World {
	t.Helper()
	return worldIn(t, what+": MountDisk", impl.MountDisk(d))
}

// cutSync is the disk that a sync leaves that is cut off.
func cutSync(t *testing.T, w impl.World, n int64, picks ...bool) impl.Disk {
	t.Helper()
	r := impl.CrashSync(w, n, picks)
	if r.Code != impl.OK {
		t.Fatalf("CrashSync at %d: code %d", n, r.Code)
	}
	return r.Disk
}

func cutMount(t *testing.T, d impl.Disk, n int64, picks ...bool) impl.Disk {
	t.Helper()
	r := impl.CrashMount(d, n, picks)
	if r.Code != impl.OK {
		t.Fatalf("CrashMount at %d: code %d", n, r.Code)
	}
	return r.Disk
}

// wantMounted: the world of a mount has this file system, twice.
func wantMounted(t *testing.T, what string, d impl.Disk, want impl.Fs) impl.World {
	t.Helper()
	w := mountOf(t, what, d)
	if !same(w.Live, want) || !same(w.Kept, want) {
		t.Errorf("%s: mounted it is %v and %v, not %v", what, w.Live, w.Kept, want)
	}
	return w
}

func TestNewWorlds(t *testing.T) {
	top := tree(dir())
	for seq := int64(1); seq <= 60000; seq = seq*3 - seq/2 {
		w := newWorld(t, seq)
		wantWorld(t, fmt.Sprint("NewWorld ", seq), impl.NewWorld(seq), impl.World{Disk: formatted(t, seq), Live: top, Kept: top})
		wantNumber(t, fmt.Sprint("number ", seq), impl.SeqOf(w.Disk), seq)
		wantFs(t, fmt.Sprint("image of ", seq), impl.LoadImage(w.Disk), top)
		wantMounted(t, fmt.Sprint("a new one of ", seq), w.Disk, top)
	}
	wantWorld(t, "the last one", impl.NewWorld(60000), impl.World{Disk: formatted(t, 60000), Live: top, Kept: top})
}

// The examples of the document: a file is made, written, renamed and read.
func TestExampleOfWorlds(t *testing.T) {
	w := newWorld(t, 1)
	w = ask(t, w, call(impl.CallMake, "/a"), impl.CallResult{Value: 1})
	w = ask(t, w, write("/a", 0, "hello"), impl.CallResult{Value: 5})
	w = ask(t, w, rename("/a", "/b"), impl.CallResult{})
	w = ask(t, w, read("/b", 0, 100), impl.CallResult{Value: 5, Bytes: []byte("hello")})
	b := tree(dir(entry("b", 1)), file(1, 5, 0))
	b.Data[0] = []byte("hello")
	if !same(w.Live, b) {
		t.Errorf("Live is %v, not %v", w.Live, b)
	}

	wantMounted(t, "no sync, crash", crash(t, w.Disk), tree(dir()))
	p := impl.PlanSync(w.Disk, w.Live).Steps
	commit := impl.CommitAt(p).Value
	wantMounted(t, "cut off behind its commit's flush", cutSync(t, w, commit+1), b)
	wantMounted(t, "cut off ahead of its commit", cutSync(t, w, commit-1), tree(dir()))
	wantMounted(t, "cut off at its commit", cutSync(t, w, commit), tree(dir()))
	wantMounted(t, "cut off at its commit, which was picked", cutSync(t, w, commit, true), b)

	synced := syncOf(t, w)
	wantMounted(t, "synced, crash", crash(t, synced.Disk), b)
	wantWorld(t, "SyncWorld", impl.SyncWorld(w), impl.World{Disk: run(t, "by hand", w.Disk, p), Live: b, Kept: b})
}

// One world from a new one on; all that comes of it is written by hand.
func TestWorldByHand(t *testing.T) {
	w := newWorld(t, 7)
	w = ask(t, w, call(impl.CallMake, "/a"), impl.CallResult{Value: 1})
	w = ask(t, w, write("/a", 0, "abcdefghij"), impl.CallResult{Value: 10})
	w = ask(t, w, write("/a", 0, "ABC"), impl.CallResult{Value: 10})
	// Nothing was kept, so that its first blocks are free again.
	if !same(w.Live.Inodes, inodes(dir(entry("a", 1)), file(1, 10, 2, 3))) || !same(w.Kept, tree(dir())) {
		t.Fatalf("by hand: %v", w)
	}
	w = syncOf(t, w)
	first := w.Live
	wantNumber(t, "the first sync", impl.SeqOf(w.Disk), 8)
	wantRead(t, "the first sync", w.Disk, 29, 65, 66, 67, 100, 101, 102, 103, 104)

	// Blocks 2 and 3 are kept now, and are busy though nothing live has them.
	w = ask(t, w, write("/a", 10, "k"), impl.CallResult{Value: 11})
	w = ask(t, w, write("/a", 11, "l"), impl.CallResult{Value: 12})
	w = ask(t, w, call(impl.CallMake, "/b"), impl.CallResult{Value: 2})
	w = ask(t, w, write("/b", 0, "b"), impl.CallResult{Value: 1})
	if !same(w.Live.Inodes, inodes(dir(entry("a", 1), entry("b", 2)), file(1, 12, 4, 5), file(1, 1, 0))) || !same(w.Kept, first) {
		t.Fatalf("behind the first sync: %v", w)
	}
	second := w.Live
	n := int64(len(impl.PlanSync(w.Disk, w.Live).Steps))
	wantMounted(t, "cut off at once", cutSync(t, w, 0), first)
	wantMounted(t, "cut off at the end", cutSync(t, w, n), second)
	back := wantMounted(t, "blocks alone are there", cutSync(t, w, 4, true, true, true), first)
	wantNumber(t, "back", impl.SeqOf(back.Disk), 8)
	wantRead(t, "the blocks of what was not synced stand there", back.Disk, 27, 98)

	// What was lost is asked for again, and comes to what it came to.
	back = askAll(t, back, write("/a", 10, "k"), write("/a", 11, "l"), call(impl.CallMake, "/b"), write("/b", 0, "b"))
	if !same(back.Live, second) {
		t.Errorf("asked again: %v, not %v", back.Live, second)
	}
	wantSteps(t, "the blocks are there already", impl.PlanSync(back.Disk, back.Live), append(steps(flushStep()), impl.PlanSync(w.Disk, w.Live).Steps[4:]...))
	w, back = syncOf(t, w), syncOf(t, back)
	wantDisk(t, "synced again", back.Disk, w.Disk)
	wantNumber(t, "the second sync", impl.SeqOf(w.Disk), 9)
	wantMounted(t, "the second sync", w.Disk, second)

	// A file that was kept is gone, and its blocks are free once that is kept.
	w = ask(t, w, call(impl.CallUnlink, "/a"), impl.CallResult{})
	w = ask(t, w, write("/b", 0, "xy"), impl.CallResult{Value: 2})
	if !same(w.Live.Inodes, inodes(dir(entry("b", 2)), kind(0), file(1, 2, 1))) {
		t.Errorf("gone: %v", w.Live)
	}
	w = syncOf(t, w)
	w = ask(t, w, write("/b", 2, "zyxwvu"), impl.CallResult{Value: 8})
	if !same(w.Live.Inodes[2], file(1, 8, 0)) {
		t.Errorf("gone and kept: %v", w.Live)
	}
}

// Each kind of call, done and come to nothing, behind a sync.
func TestCallsInAWorld(t *testing.T) {
	w := askAll(t, newWorld(t, 3), call(impl.CallDir, "/d"), call(impl.CallMake, "/d/f"), write("/d/f", 0, "file"), call(impl.CallMake, "/g"), write("/g", 0, "go"))
	w = syncOf(t, w)
	for _, c := range []struct {
		call impl.Call
		want impl.CallResult
	}{
		{call(impl.CallMake, "/x"), impl.CallResult{Value: 4}},
		{call(impl.CallDir, "/d/x"), impl.CallResult{Value: 4}},
		{write("/d/f", 2, "ne"), impl.CallResult{Value: 4}},
		{write("/d/f", 2, ""), impl.CallResult{Value: 4}},
		{read("/d/f", 1, 2), impl.CallResult{Value: 2, Bytes: []byte("il")}},
		{cut("/d/f", 3), impl.CallResult{Value: 3}},
		{call(impl.CallUnlink, "/d/f"), impl.CallResult{}},
		{link("/d/f", "/l"), impl.CallResult{}},
		{rename("/d", "/e"), impl.CallResult{}},
		{rename("/g", "/d/f"), impl.CallResult{}},
		{call(impl.CallStat, "/d/f"), impl.CallResult{Value: 1104}},
		{call(impl.CallList, "/"), impl.CallResult{Names: names("d", "g")}},
	} {
		now := ask(t, w, c.call, c.want)
		if !same(now.Live, impl.DoCall(w.Live, c.call, list(0, 1)).Fs) {
			t.Errorf("%v: Live is %v", c.call, now.Live)
		}
		synced := syncOf(t, now)
		wantMounted(t, fmt.Sprint(c.call, ", synced"), synced.Disk, now.Live)
		wantMounted(t, fmt.Sprint(c.call, ", not synced"), now.Disk, w.Live)
	}
	for _, c := range []struct {
		call  impl.Call
		reply int64
	}{
		{call(impl.CallMake, "/g"), impl.ErrTaken},
		{call(impl.CallDir, "/x/y"), impl.ErrNone},
		{write("/d", 0, "x"), impl.ErrDir},
		{write("/g", 30, "xyz"), impl.ErrMany},
		{read("/g", -1, 1), impl.ErrRange},
		{cut("/g", 33), impl.ErrRange},
		{call(impl.CallUnlink, "/d"), impl.ErrDir},
		{call(impl.CallRemove, "/d"), impl.ErrFull},
		{call(impl.CallRemove, "/g"), impl.ErrForm},
		{link("/d", "/l"), impl.ErrDir},
		{rename("/d", "/d/x"), impl.ErrForm},
		{call(impl.CallStat, "/D"), impl.ErrText},
		{call(impl.CallList, "/g"), impl.ErrDir},
		{call(impl.CallList, "g"), impl.ErrText},
	} {
		now := ask(t, w, c.call, impl.CallResult{Reply: c.reply})
		if !same(now, w) {
			t.Errorf("%v: came to nothing, and the world is %v, not %v", c.call, now, w)
		}
	}
}

// What was kept takes room that Live cannot have, though it has not those
// blocks any more; the next sync gives it back.
func TestRoomBesideWhatWasKept(t *testing.T) {
	w := newWorld(t, 3)
	text := string(freshText(32))
	for _, path := range names("/a", "/b", "/c") {
		w = askAll(t, w, call(impl.CallMake, path), write(path, 0, text))
	}
	w = syncOf(t, w)
	if !same(impl.BusyOf(w.Kept).List, upTo(12)) {
		t.Fatalf("kept: %v", w.Kept)
	}
	// Eight are left, for two files; the third has none.
	w = ask(t, w, write("/a", 0, "A"), impl.CallResult{Value: 32})
	w = ask(t, w, write("/b", 0, "B"), impl.CallResult{Value: 32})
	if !same(impl.BusyOf(w.Live).List, slices.Sorted(slices.Values(append(list(8, 9, 10, 11), upTo(20)[12:]...)))) {
		t.Errorf("live: %v", w.Live)
	}
	for _, c := range []impl.Call{write("/c", 0, "C"), write("/c", 31, "C"), cut("/c", 1), cut("/c", 32), write("/a", 0, "x"), cut("/b", 31)} {
		now := ask(t, w, c, impl.CallResult{Reply: impl.ErrFull})
		if !same(now, w) {
			t.Errorf("%v turned the world", c)
		}
	}
	// Not even what is gone in Live gives room, but what came behind the sync.
	gone := askAll(t, w, call(impl.CallUnlink, "/c"), call(impl.CallMake, "/d"))
	ask(t, gone, write("/d", 0, "d"), impl.CallResult{Reply: impl.ErrFull})
	gone = askAll(t, gone, call(impl.CallUnlink, "/b"))
	ask(t, gone, write("/d", 0, text), impl.CallResult{Value: 32})
	ask(t, w, cut("/c", 0), impl.CallResult{})
	ask(t, w, write("/c", 5, ""), impl.CallResult{Value: 32})

	w = syncOf(t, w)
	w = ask(t, w, write("/c", 0, "C"), impl.CallResult{Value: 32})
	if !same(w.Live.Inodes[3].Blocks, upTo(4)) {
		t.Errorf("behind the next sync: %v", w.Live)
	}
}

// A sync of nothing is done at once; one of all inodes and all blocks has as
// many steps as there can be.
func TestSyncsOfWorlds(t *testing.T) {
	w := newWorld(t, 59990)
	wantWorld(t, "nothing", impl.SyncWorld(w), w)
	w = askAll(t, w, call(impl.CallMake, "/a"), write("/a", 0, "text"))
	w = syncOf(t, w)
	wantWorld(t, "nothing more", impl.SyncWorld(w), w)
	wantNumber(t, "nothing more", impl.SeqOf(syncOf(t, w).Disk), 59991)
	// What was asked and taken back is nothing, too.
	back := askAll(t, w, call(impl.CallDir, "/b"), rename("/b", "/c"), rename("/a", "/b"), rename("/b", "/a"))
	if same(back.Live, w.Live) {
		t.Error("a directory more is nothing")
	}
	back = askAll(t, w, rename("/a", "/b"), rename("/b", "/a"), link("/a", "/z"), call(impl.CallUnlink, "/z"))
	wantWorld(t, "taken back", impl.SyncWorld(back), w)

	all := tenInodes()
	for seq := int64(59990); seq < 60000; seq++ {
		full := worldOf(seq, tree(dir()), all)
		synced := syncOf(t, full)
		wantWorld(t, "all inodes, all blocks", impl.SyncWorld(full), impl.World{Disk: run(t, "by hand", full.Disk, impl.PlanSync(full.Disk, all).Steps), Live: all, Kept: all})
		wantNumber(t, "all inodes, all blocks", impl.SeqOf(synced.Disk), seq+1)
		if len(synced.Disk.Cache) > 0 {
			t.Error("something is in Cache")
		}
	}
	// Up to the last number, and not beyond it.
	for seq := int64(59991); seq < 60000; seq++ {
		w = askAll(t, w, write("/a", 0, string(rune('a'+seq%10))))
		w = syncOf(t, w)
		wantNumber(t, "one more", impl.SeqOf(w.Disk), seq+1)
	}
	wantNoWorld(t, "no number is left, and nothing to be synced", impl.SyncWorld(w), impl.ErrFull)
	w = askAll(t, w, call(impl.CallDir, "/b"))
	wantNoWorld(t, "no number is left", impl.SyncWorld(w), impl.ErrFull)
	wantMounted(t, "no number is left", w.Disk, w.Kept)
}

// What stands in the cache of a disk that is mounted is flushed first, be it
// of the journal, of the image, or of neither.
func TestMountsOfWhatIsInCache(t *testing.T) {
	w := askAll(t, newWorld(t, 5), call(impl.CallMake, "/a"), write("/a", 0, "new"))
	old, p := w.Kept, impl.PlanSync(w.Disk, w.Live).Steps
	commit := impl.CommitAt(p).Value
	for n := range int64(len(p)) + 1 {
		d := run(t, "cut off", w.Disk, p[:n])
		want := old
		// Whatever was put is flushed, the commit as well.
		if n >= commit {
			want = w.Live
		}
		now := wantMounted(t, fmt.Sprint(n, " steps, in Cache"), d, want)
		wantDisk(t, fmt.Sprint(n, " steps, flushed"), mountOf(t, "flushed", flush(t, d)).Disk, now.Disk)
	}
	// All of a journal in Cache, and more puts than a mount has room for.
	d := formatted(t, 5)
	for i, words := range journalRows(5, putOf(17, 2, 0, 0, 1, 1, 1, 97), putOf(18, 2, 0, 0, 0)) {
		d = put(t, d, 1+int64(i), words...)
	}
	d = put(t, d, 17, 2, 0, 0, 1, 1, 1, 98)
	d = put(t, d, 45, 9, 9)
	goal := tree(dir(entry("a", 1)), dir())
	w = wantMounted(t, "in Cache", d, goal)
	wantRead(t, "of no file", w.Disk, 45, 9, 9)
	wantNumber(t, "in Cache", impl.SeqOf(w.Disk), 6)
	d.Cache = append(d.Cache, slices.Repeat(puts(putOf(40, 1)), 200-len(d.Cache))...)
	w = wantMounted(t, "a full Cache", d, goal)
	wantRead(t, "a full Cache", w.Disk, 40, 1)
	wantNoDisk(t, "a full Cache", impl.CrashMount(d, 1, nil), impl.ErrMany)
	// With another number in Cache the journal is none.
	d.Cache = append(d.Cache[:5:5], putOf(18, 2, 0, 0, 0), putOf(0, 7, 9))
	w = wantMounted(t, "another number", d, tree(dir(entry("b", 1)), dir()))
	wantNumber(t, "another number", impl.SeqOf(w.Disk), 9)
}
