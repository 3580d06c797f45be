package tests

import (
	"fmt"
	"math"
	"slices"
	"strings"
	"testing"

	"loop.example/g00295/impl"
)

// modelRoom counts the blocks that are neither used nor busy, one by one.
func modelRoom(f impl.Fs, busy []int64) int64 {
	room := int64(20)
	used, _ := modelUsed(f.Inodes)
	for at := range int64(20) {
		room -= codeIf(among(used, at) || among(busy, at), 1)
	}
	return room
}

// checkHeld asks of a whole file system how much room there is, and of each
// block what holds it: it is of one file or of none.
func checkHeld(t *testing.T, what string, f impl.Fs, busy []int64) {
	t.Helper()
	wantNumber(t, fmt.Sprint(what, ": RoomOf, busy ", busy), impl.RoomOf(f, busy), modelRoom(f, busy))
	used, _ := modelUsed(f.Inodes)
	for at := int64(-1); at < 22; at++ {
		want := impl.TextResult{Code: codeIf(at < 0 || at > 19, impl.ErrRange)}
		if want.Code == impl.OK && !among(used, at) {
			want.Code = impl.ErrNone
		}
		for place, x := range f.Inodes {
			if among(x.Blocks, at) {
				want = modelPathOf(f, int64(place))
			}
		}
		if r := impl.HeldBy(f, at); r != want {
			t.Errorf("%s: HeldBy %d: %v, not %v", what, at, r, want)
		}
	}
}

// Busy blocks that are used, that are free, and both.
func TestRoomByHand(t *testing.T) {
	one := tree(dir(entry("a", 1)), file(1, 9, 3, 4))
	full := tree(append(inodes(dir(sixEntries()[:5]...)), oneLink(fiveFiles())...)...)
	for what, c := range map[string]struct {
		fs   impl.Fs
		busy []int64
		room int64
	}{
		"the top alone":                       {tree(dir()), nil, 20},
		"the top alone, an empty list":        {tree(dir()), list(), 20},
		"the top alone, one busy":             {tree(dir()), list(0), 19},
		"the top alone, one busy many times":  {tree(dir()), fill(20, 19), 19},
		"the top alone, all busy":             {tree(dir()), upTo(20), 0},
		"a file":                              {one, nil, 18},
		"a file, busy ones that are used":     {one, list(4, 3), 18},
		"a file, busy ones that are free":     {one, list(0, 19), 16},
		"a file, busy ones of both":           {one, list(3, 5, 4, 5, 2), 16},
		"a file, all busy but its own":        {one, without(3, 4), 0},
		"a file, all busy but one":            {one, without(7), 1},
		"a file, all busy but one of its own": {one, without(4), 0},
		"a file of no bytes":                  {tree(dir(entry("a", 1)), file(1, 0)), nil, 20},
		"a file with many names":              {manyNames(), list(1), 16},
		"all blocks in files":                 {full, nil, 0},
		"all blocks in files, all busy":       {full, upTo(20), 0},
	} {
		wantNumber(t, what, impl.RoomOf(c.fs, c.busy), c.room)
		checkHeld(t, what, c.fs, c.busy)
	}
}

func TestWhatHoldsABlock(t *testing.T) {
	f := tree(dir(entry("a", 1), entry("b", 2), entry("c", 5)), file(1, 9, 8, 7), dir(entry("a", 3), entry("b", 4)), file(1, 32, 0, 19, 6, 5), file(2, 3, 2), dir(entry("z", 4)))
	paths := map[int64]string{8: "/a", 7: "/a", 0: "/b/a", 19: "/b/a", 6: "/b/a", 5: "/b/a", 2: "/b/b"}
	for at := range int64(20) {
		if path := paths[at]; path != "" {
			wantText(t, fmt.Sprint("HeldBy ", at), impl.HeldBy(f, at), path)
		} else {
			wantNoText(t, fmt.Sprint("HeldBy ", at), impl.HeldBy(f, at), impl.ErrNone)
		}
	}
	wantNoText(t, "HeldBy -1", impl.HeldBy(f, -1), impl.ErrRange)
	wantNoText(t, "HeldBy 20", impl.HeldBy(f, 20), impl.ErrRange)

	// A file with two names: that which comes first among all paths, be the other
	// one nearer to the top.
	two := tree(dir(entry("a", 2), entry("b", 1)), file(2, 9, 5, 0), dir(entry("z", 1)))
	wantText(t, "two names", impl.HeldBy(two, 0), "/a/z")
	two = tree(dir(entry("a", 1), entry("b", 2)), file(2, 9, 5, 0), dir(entry("z", 1)))
	wantText(t, "two names, the other way", impl.HeldBy(two, 0), "/a")
	two = tree(dir(entry("a", 1), entry("b", 1)), file(2, 9, 5, 0))
	wantText(t, "two names in one directory", impl.HeldBy(two, 5), "/a")
}

// Files of each depth: behind MaxDepth names there is no path to tell.
func TestWhatHoldsADeepBlock(t *testing.T) {
	for depth := range 8 {
		f := ladder("a", file(1, 0), entry("b", 9))
		all := f.Inodes
		for at := range all[:9] {
			if at != depth {
				all[at].Entries = slices.DeleteFunc(all[at].Entries, func(e impl.Entry) bool { return e.Inode == 9 })
			}
		}
		all[9] = file(1, 9, 3, 7)
		f = tree(all...)
		wantCode(t, fmt.Sprint("depth ", depth), impl.FsFault(f), impl.OK)
		if depth < 6 {
			wantText(t, fmt.Sprint("depth ", depth), impl.HeldBy(f, 7), strings.Repeat("/a", depth)+"/b")
		} else {
			wantNoText(t, fmt.Sprint("depth ", depth), impl.HeldBy(f, 7), impl.ErrNone)
		}
		checkHeld(t, fmt.Sprint("depth ", depth), f, list(3, 5))
	}
	// Of two names one is not too deep.
	f := ladder("b", file(2, 1, 4))
	f.Inodes[3].Entries = []impl.Entry{entry("a", 9), entry("b", 4)}
	wantText(t, "two names, one of them deep", impl.HeldBy(f, 4), "/b/b/b/a")
}

// All blocks of a file system by dice, with such as are busy.
func TestRoomAgainstModel(t *testing.T) {
	x := dice(111)
	deep := 0
	for row := range 2500 {
		f := shuffled(&x, diceTree(&x))
		checkHeld(t, fmt.Sprint("row ", row), f, nil)
		checkHeld(t, fmt.Sprint("row ", row), f, diceBusy(&x))
		g := withSizes(&x, diceDeep(&x))
		checkHeld(t, fmt.Sprint("deep row ", row), g, diceBusy(&x))
		for at := range int64(20) {
			used, _ := modelUsed(g.Inodes)
			if among(used, at) && impl.HeldBy(g, at).Code != impl.OK {
				deep++
			}
		}
		repaired := impl.RepairFs(diceWild(&x)).Fs
		checkHeld(t, fmt.Sprint("repaired row ", row), repaired, diceBusy(&x))
		if t.Failed() {
			t.FailNow()
		}
	}
	if deep == 0 {
		t.Error("no block was of a file that is too deep")
	}
}

// withSizes gives the files of a tree blocks and bytes.
func withSizes(x *dice, f impl.Fs) impl.Fs {
	left := diceOrder(x)
	for at := range f.Inodes {
		if f.Inodes[at].Kind != impl.KindFile {
			continue
		}
		n := min(x.below(5), int64(len(left)))
		f.Inodes[at].Blocks, left = left[:n], left[n:]
		f.Inodes[at].Size = max(8*n-x.below(8), 0)
		if n == 0 {
			f.Inodes[at].Size = 0
		}
	}
	return tree(f.Inodes...)
}

// noRoomFor asks for a call what it comes to in so much room: if its file needs
// more it says so, and nothing is written.
func noRoomFor(t *testing.T, what string, f impl.Fs, c impl.Call, busy []int64, size int64) bool {
	t.Helper()
	room := impl.RoomOf(f, busy).Value
	r := impl.DoCall(f, c, busy)
	full := (size+7)/8 > room
	if full {
		want := impl.CallResult{Reply: impl.ErrFull, Fs: f}
		if !same(r, want) {
			t.Errorf("%s: %v in room for %d: %v, not %v", what, c, room, r, want)
		}
		return true
	}
	if r.Code != impl.OK || r.Reply != impl.OK || r.Value != size {
		t.Errorf("%s: %v in room for %d: %v", what, c, room, r)
	}
	if text := impl.BytesIn(r.Fs, 1); int64(len(text.Bytes)) != size {
		t.Errorf("%s: %v: %v", what, c, text)
	}
	return false
}

// Each number of blocks that are free, for each size.
func TestCallsWithoutRoom(t *testing.T) {
	for _, held := range list(0, 1, 9, 17, 32) {
		blocks := list(11, 4, 19, 0)[:(held+7)/8]
		f := tree(dir(entry("a", 1), entry("b", 2)), file(1, held, blocks...), file(1, 9, 6, 5))
		for room := range int64(6) {
			left := without(append(slices.Clone(blocks), 6, 5)...)
			busy := left[:int64(len(left))-room]
			wantNumber(t, "RoomOf", impl.RoomOf(f, busy), room)
			for size := range int64(33) {
				what := fmt.Sprint(held, " bytes, then ", size)
				noRoomFor(t, what, f, cut("/a", size), busy, size)
				if size > 0 {
					noRoomFor(t, what, f, write("/a", 0, strings.Repeat("x", int(size))), busy, max(held, size))
					noRoomFor(t, what, f, write("/a", size-1, "x"), busy, max(held, size))
				}
				r := impl.SetBytes(f, 1, freshText(size), busy)
				if (size+7)/8 > room {
					wantNoFs(t, what+": SetBytes", r, impl.ErrFull)
				} else {
					wantCode(t, what+": SetBytes", r.Code, impl.OK)
				}
			}
		}
	}
}

// In a world what was kept is busy: where there is no room beside it nothing is
// written, and behind a sync there is room again.
func TestWorldsWithoutRoom(t *testing.T) {
	w := newWorld(t, 5)
	text := string(freshText(32))
	for _, name := range names("/a", "/b", "/c") {
		w = askAll(t, w, call(impl.CallMake, name), write(name, 0, text))
	}
	w = syncOf(t, w)
	wantNumber(t, "beside three full files", impl.RoomOf(w.Live, impl.BusyOf(w.Kept).List), 8)
	w = askAll(t, w, write("/a", 0, "1"), write("/b", 0, "2"), call(impl.CallUnlink, "/c"))
	wantNumber(t, "two of them written", impl.RoomOf(w.Live, impl.BusyOf(w.Kept).List), 0)
	for _, c := range []impl.Call{write("/a", 0, "x"), write("/b", 31, "x"), cut("/a", 1), cut("/b", 31)} {
		r := impl.CallWorld(w, c)
		if !same(r, impl.WorldResult{Call: impl.CallResult{Reply: impl.ErrFull}, World: w}) {
			t.Errorf("%v without room: %v", c, r)
		}
	}
	w = askAll(t, w, cut("/a", 0))
	wantNumber(t, "one cut to nothing", impl.RoomOf(w.Live, impl.BusyOf(w.Kept).List), 4)
	w = syncOf(t, w)
	wantNumber(t, "synced", impl.RoomOf(w.Live, impl.BusyOf(w.Kept).List), 16)
	wantText(t, "synced", impl.HeldBy(w.Live, w.Live.Inodes[2].Blocks[0]), "/b")
	for _, at := range list(math.MinInt64, -1, 20, math.MaxInt64) {
		wantNoText(t, "synced", impl.HeldBy(w.Live, at), impl.ErrRange)
	}
}

// Calls by dice, with few blocks free: what finds no room writes nothing, and
// what is there stays whole.
func TestCallsWithoutRoomByDice(t *testing.T) {
	x := dice(112)
	full := 0
	for row := range 1500 {
		f := shuffled(&x, diceTree(&x))
		busy := diceOrder(&x)[:12]
		for range 6 {
			c := diceCall(&x, modelPaths(f))
			r := impl.DoCall(f, c, busy)
			if r.Reply == impl.ErrFull && (c.Kind == impl.CallWrite || c.Kind == impl.CallCut) {
				full++
				if !same(r.Fs, f) {
					t.Fatalf("row %d: %v: %v, not %v", row, c, r.Fs, f)
				}
				if at := impl.WalkPath(f, c.Path).Value; impl.RoomOf(f, busy).Value >= 4 {
					t.Fatalf("row %d: %v of inode %d finds no room in %v", row, c, at, impl.RoomOf(f, busy))
				}
			}
			wantWords(t, fmt.Sprint("row ", row, ": ", c), impl.FindingsOf(r.Fs), list(0, 0, 0, 0, 0))
			f = r.Fs
		}
	}
	if full < 30 {
		t.Errorf("%d calls alone found no room", full)
	}
}
