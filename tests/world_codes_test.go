package tests

import (
	"fmt"
	"math"
	"slices"
	"testing"

	"loop.example/g00295/impl"
)

// wantWorldCode asks all functions that take a world for its fault, whatever
// else they are told.
func wantWorldCode(t *testing.T, what string, w impl.World, code int64) {
	t.Helper()
	wantCode(t, what+": WorldFault", impl.WorldFault(w), code)
	wantCode(t, what+": by the model", modelWorld(w), code)
	if code == impl.OK {
		return
	}
	for _, c := range []impl.Call{{}, call(impl.CallMake, "/x"), call(impl.CallStat, "/"), call(12, ""), {Kind: impl.CallWrite, Data: make([]byte, 41)}} {
		wantNoWorld(t, what+": CallWorld", impl.CallWorld(w, c), code)
	}
	wantNoWorld(t, what+": SyncWorld", impl.SyncWorld(w), code)
	for _, n := range list(math.MinInt64, -1, 0, 1, 9, 200, math.MaxInt64) {
		wantNoDisk(t, what+": CrashSync", impl.CrashSync(w, n, []bool{true}), code)
	}
}

func TestCodesOfNewWorld(t *testing.T) {
	for _, seq := range list(0, -1, 60001, 60002, 65535, 65536, 65537, 1<<32, 1<<32+1, -1<<32, math.MinInt64, math.MaxInt64) {
		wantNoWorld(t, fmt.Sprint("NewWorld ", seq), impl.NewWorld(seq), impl.ErrRange)
	}
	for seq := int64(-20); seq < 20; seq++ {
		wantCode(t, fmt.Sprint("NewWorld ", seq), impl.NewWorld(seq).Code, codeIf(seq < 1, impl.ErrRange))
		wantCode(t, fmt.Sprint("NewWorld ", 60000+seq), impl.NewWorld(60000+seq).Code, codeIf(seq > 0, impl.ErrRange))
	}
}

// Disks that are none for a file system, under file systems of each kind.
func TestDiskFaultsOfWorlds(t *testing.T) {
	top, wrong := tree(dir()), tree(dir(entry("a", 1)))
	for _, c := range allDisks() {
		for _, w := range []impl.World{{Disk: c.disk}, {Disk: c.disk, Live: top, Kept: top}, {Disk: c.disk, Live: wrong, Kept: top}, {Disk: c.disk, Live: top, Kept: wrong}} {
			wantWorldCode(t, c.what, w, firstCode(c.code, impl.ErrForm))
		}
		wantNoWorld(t, c.what, impl.MountDisk(c.disk), firstCode(c.code, impl.ErrForm))
		for _, n := range list(-1, 0, 1, 300) {
			wantNoDisk(t, c.what, impl.CrashMount(c.disk, n, []bool{true}), firstCode(c.code, impl.ErrForm))
		}
	}
	for n := range 70 {
		d := impl.Disk{Blocks: emptyBlocks(n)}
		if n > 0 {
			d.Blocks[0] = list(7, 5)
		}
		if n > 17 {
			d.Blocks[17] = list(2, 0, 0, 0)
		}
		code := firstCode(codeIf(n > 60, impl.ErrMany), codeIf(n != 47, impl.ErrForm))
		wantWorldCode(t, fmt.Sprint(n, " blocks"), impl.World{Disk: d, Live: top, Kept: top}, code)
		wantCode(t, fmt.Sprint(n, " blocks: MountDisk"), impl.MountDisk(d).Code, code)
		wantCode(t, fmt.Sprint(n, " blocks: CrashMount"), impl.CrashMount(d, 0, nil).Code, code)
	}
	for _, c := range superCases() {
		d := formatted(t, 5)
		d.Blocks[0] = c.words
		wantWorldCode(t, fmt.Sprint(c.words), impl.World{Disk: d, Live: top, Kept: top}, c.code)
		wantWorldCode(t, fmt.Sprint(c.words, ", Live wrong"), impl.World{Disk: d, Live: wrong, Kept: top}, firstCode(c.code, impl.ErrNone))
		wantCode(t, fmt.Sprint(c.words, ": MountDisk"), impl.MountDisk(d).Code, c.code)
		wantCode(t, fmt.Sprint(c.words, ": CrashMount"), impl.CrashMount(d, 0, nil).Code, c.code)
		if c.code != impl.OK {
			wantNoWorld(t, fmt.Sprint(c.words), impl.MountDisk(d), c.code)
			wantNoDisk(t, fmt.Sprint(c.words), impl.CrashMount(d, -1, nil), c.code)
		}
	}
}

// Each fault that a file system may have, in Live, in Kept, and in both.
func TestFsFaultsOfWorlds(t *testing.T) {
	top := tree(dir())
	all := append(turnedTrees(), faultyTrees()...)
	for i, c := range all {
		wantWorldCode(t, "Live is "+c.what, impl.World{Disk: formatted(t, 5), Live: c.fs, Kept: top}, c.code)
		kept := firstCode(c.code, codeIf(!same(c.fs, top), impl.ErrState))
		wantWorldCode(t, "Kept is "+c.what, impl.World{Disk: formatted(t, 5), Live: top, Kept: c.fs}, kept)
		other := all[(i*7+3)%len(all)]
		both := firstCode(c.code, other.code, codeIf(!same(other.fs, top), impl.ErrState))
		wantWorldCode(t, "Live is "+c.what+", Kept is "+other.what, impl.World{Disk: formatted(t, 5), Live: c.fs, Kept: other.fs}, both)
		if c.code == impl.OK {
			wantWorldCode(t, "both are "+c.what, worldOf(5, c.fs, c.fs), impl.OK)
		}
	}
}

// A put in the cache, whatever it is; even one that turns nothing.
func TestPutsInTheCacheOfWorlds(t *testing.T) {
	f := turnedTree()
	for at := range int64(47) {
		w := worldOf(5, f, f)
		w.Disk.Cache = puts(putOf(at, copyOfWords(w.Disk.Blocks[at])...))
		wantWorldCode(t, fmt.Sprint("what stands at ", at), w, impl.ErrForm)
		w.Disk.Cache = puts(putOf(at))
		code := int64(impl.ErrForm)
		if at == 0 {
			code = impl.ErrText
		}
		wantWorldCode(t, fmt.Sprint("no words at ", at), w, code)
	}
	for _, n := range []int{0, 1, 2, 199, 200, 201} {
		w := worldOf(5, f, f)
		w.Disk.Cache = slices.Repeat(puts(putOf(46)), n)
		wantWorldCode(t, fmt.Sprint(n, " puts"), w, firstCode(codeIf(n > 200, impl.ErrMany), codeIf(n > 0, impl.ErrForm)))
	}
	// Behind the end of an empty list there is none.
	w := worldOf(5, f, f)
	w.Disk.Cache = puts(putOf(46, 1))[:0]
	wantWorldCode(t, "a put behind the end", w, impl.OK)
}

// A disk that has another file system than the one that was kept, or none.
func TestDisksThatHaveAnother(t *testing.T) {
	f := turnedTree()
	for _, c := range diskTurns() {
		w := worldOf(5, f, f)
		c.do(&w.Disk)
		code := impl.SeqOf(w.Disk).Code
		wantWorldCode(t, c.what, w, firstCode(code, impl.ErrState))
		if c.code != impl.OK {
			wantNoWorld(t, c.what, impl.MountDisk(w.Disk), c.code)
		}
	}
	for at := range f.Inodes {
		if at == 0 {
			continue
		}
		w := worldOf(5, f, f)
		w.Disk.Blocks[17+at] = nil
		code := int64(impl.ErrState)
		if at == 5 {
			// A free one, with others behind it: no words and 0, 0, 0 are the same.
			code = impl.OK
		}
		wantWorldCode(t, fmt.Sprint("no words of inode ", at), w, code)
	}
	free := worldOf(5, f, f)
	free.Disk.Blocks[24] = list(0, 0, 0)
	wantWorldCode(t, "a free one more", free, impl.ErrState)
	used, _ := modelUsed(f.Inodes)
	for at := range int64(20) {
		w := worldOf(5, f, f)
		w.Disk.Blocks[27+at] = append(w.Disk.Blocks[27+at], 9)
		wantWorldCode(t, fmt.Sprint("a word behind block ", at), w, impl.OK)
		if among(used, at) {
			w.Disk.Blocks[27+at][0]++
			wantWorldCode(t, fmt.Sprint("another byte in block ", at), w, impl.ErrState)
			w.Disk.Blocks[27+at][0] = 256
			wantWorldCode(t, fmt.Sprint("no byte in block ", at), w, impl.ErrState)
			w.Disk.Blocks[27+at] = nil
			wantWorldCode(t, fmt.Sprint("nothing in block ", at), w, impl.ErrState)
		}
	}
	trees := imageTrees()
	for i, c := range trees {
		other := trees[(i+11)%len(trees)]
		top := tree(dir())
		wantWorldCode(t, c.what, impl.World{Disk: imageDisk(5, c.fs), Live: top, Kept: c.fs}, impl.OK)
		wantWorldCode(t, c.what+" on the disk of "+other.what, impl.World{Disk: imageDisk(5, other.fs), Live: top, Kept: c.fs}, codeIf(!same(loaded(other.fs), c.fs), impl.ErrState))
		// Live may be any that has no block of it, or the very same.
		wantWorldCode(t, c.what+", live", worldOf(5, c.fs, c.fs), impl.OK)
		wantWorldCode(t, c.what+", live alone", worldOf(5, top, c.fs), impl.OK)
	}
}

// What both have in common: a block of both holds the same bytes in both.
func TestBlocksOfBoth(t *testing.T) {
	kept := tree(dir(entry("a", 1), entry("b", 2)), file(1, 13, 6, 8), file(1, 8, 2))
	kept.Data[6], kept.Data[8], kept.Data[2] = []byte("abcdefgh"), []byte("ijklm"), []byte("stuvwxyz")
	for what, c := range map[string]struct {
		inode impl.Inode
		data  map[int64]string
		code  int64
	}{
		"the same file":                       {file(1, 13, 6, 8), map[int64]string{6: "abcdefgh", 8: "ijklm"}, impl.OK},
		"its first block alone":               {file(1, 8, 6), map[int64]string{6: "abcdefgh"}, impl.OK},
		"its last block alone":                {file(1, 5, 8), map[int64]string{8: "ijklm"}, impl.OK},
		"a block of another file":             {file(1, 8, 2), map[int64]string{2: "stuvwxyz"}, impl.OK},
		"blocks the other way round":          {file(1, 16, 2, 6), map[int64]string{2: "stuvwxyz", 6: "abcdefgh"}, impl.OK},
		"the same bytes in other blocks":      {file(1, 13, 7, 9), map[int64]string{7: "abcdefgh", 9: "ijklm"}, impl.OK},
		"other bytes in other blocks":         {file(1, 13, 7, 9), map[int64]string{7: "ABCDEFGH", 9: "IJKLM"}, impl.OK},
		"one block, one other":                {file(1, 13, 6, 9), map[int64]string{6: "abcdefgh", 9: "IJKLM"}, impl.OK},
		"other bytes":                         {file(1, 13, 6, 8), map[int64]string{6: "ABCDEFGH", 8: "IJKLM"}, impl.ErrState},
		"another byte in the last block":      {file(1, 13, 6, 8), map[int64]string{6: "abcdefgh", 8: "ijklM"}, impl.ErrState},
		"other bytes, its first one alone":    {file(1, 8, 6), map[int64]string{6: "abcdefgH"}, impl.ErrState},
		"fewer bytes, as they are":            {file(1, 12, 6, 8), map[int64]string{6: "abcdefgh", 8: "ijkl"}, impl.ErrState},
		"more bytes, behind those":            {file(1, 14, 6, 8), map[int64]string{6: "abcdefgh", 8: "ijklmn"}, impl.ErrState},
		"a byte 0 more":                       {file(1, 14, 6, 8), map[int64]string{6: "abcdefgh", 8: "ijklm\x00"}, impl.ErrState},
		"fewer bytes of a full one":           {file(1, 7, 6), map[int64]string{6: "abcdefg"}, impl.ErrState},
		"its bytes in each other's blocks":    {file(1, 16, 2, 6), map[int64]string{2: "abcdefgh", 6: "stuvwxyz"}, impl.ErrState},
		"one other block, and one with other": {file(1, 16, 19, 2), map[int64]string{19: "abcdefgh", 2: "stuvwxyZ"}, impl.ErrState},
		"a file of no bytes":                  {file(1, 0), nil, impl.OK},
		"no file":                             {dir(), nil, impl.OK},
	} {
		live := impl.Fs{Inodes: inodes(dir(entry("c", 3)), kind(0), kind(0), c.inode), Data: make([][]byte, 20)}
		for at, text := range c.data {
			live.Data[at] = []byte(text)
		}
		wantCode(t, what, impl.FsFault(live), impl.OK)
		wantWorldCode(t, what, worldOf(5, kept, live), c.code)
		// The same the other way round.
		wantWorldCode(t, what+", kept", worldOf(5, live, kept), c.code)
	}
	// Each byte of a block of both.
	for place := range 8 {
		live := ownFs(kept)
		live.Data[6][place] ^= 128
		wantWorldCode(t, fmt.Sprint("byte ", place), worldOf(5, kept, live), impl.ErrState)
	}
}

// turnWorld turns a world by what is wrong with it, in the order of its codes.
func (w *mishap) turnWorld(x *impl.World) {
	w.turn(&x.Disk)
	if w.has(impl.ErrText) {
		x.Disk.Blocks[0] = list(7, 60001)
	}
	if w.has(impl.ErrNone) {
		x.Live.Inodes[2].Entries[1].Inode = 5
	}
	if w.has(impl.ErrTaken) {
		x.Kept.Inodes[3].Blocks[0] = 8
	}
	if w.has(impl.ErrForm) {
		x.Disk.Cache = append(x.Disk.Cache, putOf(4))
	}
	if w.has(impl.ErrState) {
		x.Disk.Blocks[33] = list(0)
	}
	if w.has(impl.ErrState) {
		x.Live.Data[8][0]++
	}
}

// All that may be wrong with a world, together.
func TestWhichFaultOfAWorldComesFirst(t *testing.T) {
	for set := range 1 << 9 {
		w, x := mishap{set: set}, worldOf(5, turnedTree(), turnedTree())
		w.turnWorld(&x)
		wantWorldCode(t, fmt.Sprintf("set %b", set), x, w.code)
	}
}

// Behind the fault of the world come those of DoCall; a call has no busy ones
// that could be wrong.
func TestWhichCodeOfCallWorldComesFirst(t *testing.T) {
	for set := range 1 << 12 {
		w, x, c := mishap{set: set}, worldOf(5, turnedTree(), turnedTree()), write("/a", 0, "hi")
		w.turnWorld(&x)
		if w.has(impl.ErrForm) {
			c.To = "/b"
		}
		if w.has(impl.ErrMany) {
			c.Data = make([]byte, 41)
		}
		if w.has(impl.OK) {
			c.Path = "/nobody"
		}
		r := impl.CallWorld(x, c)
		what := fmt.Sprintf("set %b", set)
		if w.code != impl.OK {
			wantNoWorld(t, what, r, w.code)
			wantNoWorld(t, what+", by the model", modelWorldCall(x, c), w.code)
		} else if !same(r, modelWorldCall(x, c)) || (r.Call.Reply == impl.OK) != (c.Path == "/a") {
			t.Errorf("%s: %v", what, r)
		}
	}
}

func TestCallFaultsInAWorld(t *testing.T) {
	x := worldOf(5, turnedTree(), turnedTree())
	for _, part := range callParts() {
		for number := int64(-1); number < 14; number++ {
			for _, set := range part.set {
				c := call(number, "/a")
				set(&c)
				r := impl.CallWorld(x, c)
				if code := impl.CallFault(c); code != impl.OK {
					wantNoWorld(t, fmt.Sprint(c), r, code)
				} else if r.Code != impl.OK || !same(r, modelWorldCall(x, c)) {
					t.Errorf("%v: %v", c, r)
				}
			}
		}
	}
	for n := range 50 {
		c := impl.Call{Kind: impl.CallWrite, Path: "/a", Data: make([]byte, n)}
		wantCode(t, fmt.Sprint(n, " bytes"), impl.CallWorld(x, c).Code, codeIf(n > 40, impl.ErrMany))
	}
}

// Behind the fault of the world comes the last number, and behind that how many
// steps there are.
func TestWhichCodeOfSyncsComesFirst(t *testing.T) {
	for set := range 1 << 11 {
		w, x := mishap{set: set}, worldOf(5, turnedTree(), turnedTree())
		w.turnWorld(&x)
		if w.has(impl.ErrFull) && len(x.Disk.Blocks[0]) == 2 && x.Disk.Blocks[0][1] == 5 {
			x.Disk.Blocks[0] = list(7, 60000)
		}
		what := fmt.Sprintf("set %b", set)
		if w.code != impl.OK {
			wantNoWorld(t, what, impl.SyncWorld(x), w.code)
		} else {
			wantWorld(t, what, impl.SyncWorld(x), x)
		}
		n := int64(0)
		if w.has(impl.ErrRange) {
			n = 1
		}
		r := impl.CrashSync(x, n, []bool{true})
		if w.code != impl.OK {
			wantNoDisk(t, what, r, w.code)
		} else if !same(r, impl.DiskResult{Disk: x.Disk}) {
			t.Errorf("%s: %v", what, r)
		}
	}
}

func TestTheLastNumberOfWorlds(t *testing.T) {
	f := tree(dir(entry("a", 1)), file(1, 9, 3, 4))
	for _, seq := range list(1, 59998, 59999, 60000) {
		for what, w := range map[string]impl.World{"nothing": worldOf(seq, f, f), "something": worldOf(seq, tree(dir()), f), "something gone": worldOf(seq, f, tree(dir()))} {
			what := fmt.Sprint(what, " at ", seq)
			wantCode(t, what, impl.WorldFault(w), impl.OK)
			if seq < 60000 {
				wantWorld(t, what, impl.SyncWorld(w), impl.World{Disk: modelWorldSync(w).World.Disk, Live: w.Live, Kept: w.Live})
				wantCode(t, what, impl.CrashSync(w, 0, nil).Code, impl.OK)
				continue
			}
			wantNoWorld(t, what, impl.SyncWorld(w), impl.ErrFull)
			for _, n := range list(-1, 0, 1, 14, 15) {
				wantNoDisk(t, what, impl.CrashSync(w, n, nil), impl.ErrFull)
			}
			// A journal of this number is found, but there is none behind it.
			d := withJournal(w.Disk, journalRows(60000, putOf(17, 2, 0, 0, 0))...)
			wantWorld(t, what+", mounted", impl.MountDisk(d), impl.World{Disk: d, Live: w.Kept, Kept: w.Kept})
			wantDisk(t, what+", cut off", cutMount(t, d, 0), d)
			wantNoDisk(t, what+", cut off", impl.CrashMount(d, 1, nil), impl.ErrRange)
		}
	}
}

func TestHowManyStepsASyncHas(t *testing.T) {
	far := list(math.MinInt64, -1<<32, -1, 49, 120, 121, 1<<32, 1<<32+1, math.MaxInt64)
	f := tree(dir(entry("a", 1)), file(1, 9, 3, 4))
	for what, c := range map[string]struct {
		world impl.World
		steps int64
	}{
		"nothing":          {worldOf(5, f, f), 0},
		"a directory more": {worldOf(5, tree(dir()), tree(dir(entry("a", 1)), dir())), 12},
		"a file gone":      {worldOf(5, f, tree(dir())), 12},
		"two blocks":       {worldOf(5, tree(dir()), f), 14},
		"all":              {worldOf(5, tree(dir()), tenInodes()), 48},
	} {
		wantSteps(t, what, impl.PlanSync(c.world.Disk, c.world.Live), modelSync(c.world.Disk, c.world.Live).Steps)
		if n := int64(len(modelSync(c.world.Disk, c.world.Live).Steps)); n != c.steps {
			t.Errorf("%s: %d steps", what, n)
		}
		for n := int64(-3); n < 125; n++ {
			r := impl.CrashSync(c.world, n, nil)
			wantCode(t, fmt.Sprint(what, ": ", n, " steps"), r.Code, codeIf(n < 0 || n > c.steps, impl.ErrRange))
			if r.Code != impl.OK {
				wantNoDisk(t, what, r, impl.ErrRange)
			} else if !same(r, modelCrashSync(c.world, n, nil)) {
				t.Errorf("%s: cut off at %d: %v", what, n, r)
			}
		}
		for _, n := range far {
			wantNoDisk(t, fmt.Sprint(what, ": ", n), impl.CrashSync(c.world, n, []bool{true}), impl.ErrRange)
		}
		wantDisk(t, what+": all of it", cutSync(t, c.world, c.steps), syncOf(t, c.world).Disk)
		wantDisk(t, what+": nothing of it", cutSync(t, c.world, 0, true, true), c.world.Disk)
	}
}

// Picks are of what is in the cache then: fewer, as many, and more.
func TestPicksOfSyncs(t *testing.T) {
	f := tree(dir(entry("a", 1)), file(1, 32, 3, 4, 5, 6))
	w := worldOf(5, tree(dir()), f)
	p := impl.PlanSync(w.Disk, f).Steps
	for n := range len(p) + 1 {
		waiting := 0
		for n-waiting > 0 && !p[n-waiting-1].Flush {
			waiting++
		}
		done := run(t, "picks", w.Disk, p[:n])
		if len(done.Cache) != waiting {
			t.Fatalf("%d in Cache behind %d steps, not %d", len(done.Cache), n, waiting)
		}
		for size := range waiting + 4 {
			for set := range 1 << size {
				picks := make([]bool, size, size+3)
				want := impl.Disk{Blocks: slices.Clone(done.Blocks)}
				for i := range picks {
					picks[i] = set>>i&1 == 1
					if picks[i] && i < waiting {
						want.Blocks[done.Cache[i].At] = done.Cache[i].Words
					}
				}
				// What stands behind the end is no pick.
				for i := range picks[size:cap(picks)] {
					picks[size : size+3][i] = true
				}
				wantDisk(t, fmt.Sprintf("%d steps, picked %v", n, picks), cutSync(t, w, int64(n), picks...), want)
			}
		}
	}
}

// Mounts with steps and without, with a cache that has room and one that has
// not.
func TestCodesOfCrashMount(t *testing.T) {
	far := list(math.MinInt64, -1<<32, -2, -1, 14, 120, 121, 1<<32, 1<<32+1, math.MaxInt64)
	for count := range 12 {
		found := withJournal(formatted(t, 5), journalRows(5, somePuts(count)...)...)
		most := int64(count) + 3
		if count > 10 {
			most = 0
		}
		for n := int64(-2); n < 18; n++ {
			r := impl.CrashMount(found, n, nil)
			wantCode(t, fmt.Sprintf("%d of %d steps", n, most), r.Code, codeIf(n < 0 || n > most, impl.ErrRange))
			wantCode(t, fmt.Sprintf("%d of no steps", n), impl.CrashMount(formatted(t, 5), n, nil).Code, codeIf(n != 0, impl.ErrRange))
			if r.Code == impl.OK {
				checkCutMount(t, "picks", found, n, []bool{n%2 == 0, true, n%3 == 0, true})
			} else {
				wantNoDisk(t, "too many", r, impl.ErrRange)
			}
		}
		for _, n := range far {
			wantNoDisk(t, fmt.Sprint("far: ", n), impl.CrashMount(found, n, nil), impl.ErrRange)
			wantNoDisk(t, fmt.Sprint("far, of none: ", n), impl.CrashMount(formatted(t, 5), n, nil), impl.ErrRange)
		}
		for _, room := range []int{0, 1, 2, 5, 10, 11, 20} {
			full := impl.Disk{Blocks: found.Blocks, Cache: slices.Repeat(puts(putOf(46, 1)), 200-room)}
			for n := range most + 1 {
				r := impl.CrashMount(full, n, []bool{true})
				code := codeIf(min(int(n), count) > room, impl.ErrMany)
				what := fmt.Sprintf("room for %d, %d of %d steps", room, n, most)
				if code != impl.OK {
					wantNoDisk(t, what, r, code)
				} else if !same(r, modelCut(full, modelMount(full), n, []bool{true})) {
					t.Errorf("%s: %v", what, r)
				}
			}
			wantNoDisk(t, "no room and too many", impl.CrashMount(full, most+1, nil), impl.ErrRange)
			wantNoDisk(t, "no room and below", impl.CrashMount(full, -1, nil), impl.ErrRange)
			// A mount that is done has it flushed first.
			if r := impl.MountDisk(full); !same(r, modelMountDisk(full)) || r.Code == impl.ErrMany {
				t.Errorf("room for %d: MountDisk %v", room, r)
			}
		}
	}
}

// What is in the cache of a disk already is ahead of the puts of a mount, in
// the picks as well.
func TestPicksOfMounts(t *testing.T) {
	d := withJournal(formatted(t, 5), journalRows(5, putOf(17, 2, 0, 0, 1, 1, 1, 97), putOf(18, 2, 0, 0, 0))...)
	d.Cache = puts(putOf(45, 1), putOf(17, 2, 0, 0, 0), putOf(45, 2))
	for set := range 1 << 6 {
		var picks []bool
		for i := range 6 {
			picks = append(picks, set>>i&1 == 1)
		}
		what := fmt.Sprint("picked ", picks)
		for n := range int64(6) {
			checkCutMount(t, what, d, n, picks)
		}
		now := cutMount(t, d, 2, picks...)
		want := list(2, 0, 0, 0)
		if picks[3] {
			want = list(2, 0, 0, 1, 1, 1, 97)
		}
		wantRead(t, what, now, 17, want...)
		var last []int64
		for i, word := range map[int]int64{0: 1, 2: 2} {
			if picks[i] {
				last = list(max(word, slices.Max(append(list(0), last...))))
			}
		}
		wantRead(t, what, now, 45, last...)
		// The flush behind the puts takes all, picked or not.
		wantRead(t, what, cutMount(t, d, 3, picks...), 45, 2)
		wantNumber(t, what, impl.SeqOf(cutMount(t, d, 4, picks...)), 5+codeIf(picks[0], 1))
		wantNumber(t, what, impl.SeqOf(cutMount(t, d, 5, picks...)), 6)
	}
}

// All that may be wrong with a disk that is to be mounted, together; with a
// journal that mends some of it, and one that spoils it.
func TestWhichCodeOfMountDiskComesFirst(t *testing.T) {
	for set := range 1 << len(diskTurns()) {
		d := imageDisk(5, turnedTree())
		code, seqCode := int64(impl.OK), int64(impl.OK)
		for i, turn := range diskTurns() {
			if set>>i&1 == 1 {
				turn.do(&d)
				code = firstCode(code, turn.code)
				if i < 4 {
					seqCode = firstCode(seqCode, turn.code)
				}
			}
		}
		what := fmt.Sprintf("set %b", set)
		r := checkMountDisk(t, what, d)
		wantCode(t, what, r.Code, code)
		if code != impl.OK {
			wantNoWorld(t, what, r, code)
		}
		wantCode(t, what+": CrashMount", impl.CrashMount(d, 0, nil).Code, seqCode)
		wantCode(t, what+": CrashMount at -1", impl.CrashMount(d, -1, nil).Code, firstCode(seqCode, impl.ErrRange))
	}
	good, bad := modelInodePuts(turnedTree()), puts(putOf(17, 1, 1, 0))
	for _, c := range diskTurns() {
		d := imageDisk(5, turnedTree())
		c.do(&d)
		rows := journalRows(5, good...)
		now := checkMountDisk(t, c.what+", mended", withJournal(d, rows...))
		if impl.SeqOf(d).Code == impl.OK && c.what != "a word above 255" {
			wantCode(t, c.what+", mended", now.Code, impl.OK)
		}
		worse := checkMountDisk(t, c.what+", spoilt", withJournal(d, journalRows(5, bad...)...))
		if worse.Code == impl.OK {
			t.Errorf("%s, spoilt: %v", c.what, worse)
		}
	}
	d := withJournal(imageDisk(5, turnedTree()), journalRows(5, bad...)...)
	wantNoWorld(t, "spoilt", impl.MountDisk(d), impl.ErrForm)
	// Where no steps are to be done a full cache is flushed alone.
	full := imageDisk(5, turnedTree())
	full.Cache = slices.Repeat(puts(putOf(3, 1)), 200)
	wantWorld(t, "a full cache", impl.MountDisk(full), impl.World{Disk: flush(t, full), Live: turnedTree(), Kept: turnedTree()})
}
