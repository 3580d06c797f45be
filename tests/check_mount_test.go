package tests

import (
	"fmt"
	"maps"
	"slices"
	"testing"

	"loop.example/g00295/impl"
)

// checkDisk asks what is found on a disk: behind a mount nothing is, and where
// there is no mount there is its code.
func checkDisk(t *testing.T, what string, d impl.Disk) int64 {
	t.Helper()
	code := modelMountDisk(d).Code
	if code == impl.OK {
		wantWords(t, what+": CheckDisk", impl.CheckDisk(d), list(0, 0, 0, 0, 0))
	} else {
		wantNoWords(t, what+": CheckDisk", impl.CheckDisk(d), code)
	}
	return code
}

func TestDisksThatAreLookedOver(t *testing.T) {
	for _, seq := range list(1, 2, 59999, 60000) {
		checkDisk(t, fmt.Sprint("a new one of number ", seq), formatted(t, seq))
	}
	for i, c := range imageTrees() {
		checkDisk(t, c.what, imageDisk(5, c.fs))
		checkDisk(t, c.what+", with an old journal", withOldJournal(imageDisk(5, c.fs), i))
		found := withJournal(formatted(t, 5), journalRows(5, modelInodePuts(c.fs)...)...)
		for _, p := range modelDataPuts(c.fs) {
			found.Blocks[p.At] = p.Words
		}
		wantCode(t, c.what+", with a journal", checkDisk(t, c.what+", with a journal", found), impl.OK)
	}
	// The journal alone is right, or alone is wrong.
	good := withJournal(imageDisk(5, turnedTree()), journalRows(5, modelInodePuts(turnedTree())...)...)
	good.Blocks[17], good.Blocks[20] = list(9), list(2, 0, 0, 0)
	wantCode(t, "mended by the journal", checkDisk(t, "mended by the journal", good), impl.OK)
	bad := withJournal(imageDisk(5, turnedTree()), journalRows(5, putOf(23, 1, 1, 0))...)
	wantNoWords(t, "spoilt by the journal", impl.CheckDisk(bad), impl.ErrForm)
	bad = withJournal(imageDisk(5, turnedTree()), journalRows(5, putOf(19, 2, 0, 0, 2, 3, 1, 97, 5, 1, 98))...)
	wantNoWords(t, "spoilt by an entry of the journal", impl.CheckDisk(bad), impl.ErrNone)
}

// What waits in Cache is flushed by a mount: it counts, whatever it is.
func TestDisksWithPutsThatAreLookedOver(t *testing.T) {
	d := imageDisk(5, turnedTree())
	d.Cache = puts(putOf(46, 1, 2, 3), putOf(3, 7))
	wantWords(t, "puts of no matter", impl.CheckDisk(d), list(0, 0, 0, 0, 0))
	d.Cache = puts(putOf(18, 2, 0, 0, 0))
	wantWords(t, "a directory in place of a file, its blocks of nobody", impl.CheckDisk(d), list(0, 0, 0, 0, 0))
	d.Cache = puts(putOf(18, 2, 0, 0, 1, 1, 1, 97))
	wantNoWords(t, "a directory in place of a file, that leads to itself", impl.CheckDisk(d), impl.ErrForm)
	d.Cache = puts(putOf(20))
	wantNoWords(t, "a file that is gone", impl.CheckDisk(d), impl.ErrNone)
	d.Cache = puts(putOf(20), putOf(20, 1, 1, 1, 6))
	wantWords(t, "a file that is gone, and there again", impl.CheckDisk(d), list(0, 0, 0, 0, 0))
	d.Cache = slices.Repeat(puts(putOf(46, 1)), 200)
	wantWords(t, "a full cache", impl.CheckDisk(d), list(0, 0, 0, 0, 0))
	d.Cache = slices.Repeat(puts(putOf(46, 1)), 201)
	wantNoWords(t, "one put more", impl.CheckDisk(d), impl.ErrMany)
	d.Cache = puts(putOf(0, 7, 60001))
	wantNoWords(t, "no number", impl.CheckDisk(d), impl.ErrText)
}

// checkCutDisks asks for promise 16 of all that a cut sync may leave: nothing is
// found on it, nor where the mount of it is cut off as well.
func checkCutDisks(t *testing.T, x *dice, what string, w impl.World, mounts bool) int {
	t.Helper()
	noughts := list(0, 0, 0, 0, 0)
	count := 0
	p := impl.PlanSync(w.Disk, w.Live).Steps
	for n := range int64(len(p)) + 1 {
		done := run(t, what, w.Disk, p[:n])
		what := fmt.Sprintf("%s, cut off at %d of %d", what, n, len(p))
		wantWords(t, what+", with what waits", impl.CheckDisk(done), noughts)
		for _, picks := range fewPicks(x, len(done.Cache)) {
			d := cutSync(t, w, n, picks...)
			wantWords(t, fmt.Sprint(what, ", picked ", picks), impl.CheckDisk(d), noughts)
			count++
			for m := range int64(len(impl.PlanMount(d).Steps)) + 1 {
				if !mounts {
					continue
				}
				ways := fewPicks(x, 10)
				half := cutMount(t, d, m, ways[x.below(int64(len(ways)))]...)
				wantWords(t, fmt.Sprint(what, ", the mount at ", m), impl.CheckDisk(half), noughts)
			}
		}
	}
	return count
}

func TestNothingIsFoundBehindAMount(t *testing.T) {
	x := dice(121)
	count, found := 0, 0
	for row := range 120 {
		w := newWorld(t, []int64{1 + x.below(59900), 1}[x.below(2)])
		for step := range 30 {
			w = impl.CallWorld(w, diceCall(&x, modelPaths(w.Live))).World
			what := fmt.Sprint("row ", row, ", step ", step)
			wantWords(t, what+": Live", impl.FindingsOf(w.Live), list(0, 0, 0, 0, 0))
			wantWords(t, what+": Disk", impl.CheckDisk(w.Disk), list(0, 0, 0, 0, 0))
			switch x.below(12) {
			case 0:
				w = syncOf(t, w)
				wantWords(t, what+": synced", impl.CheckDisk(w.Disk), list(0, 0, 0, 0, 0))
			case 1:
				p := impl.PlanSync(w.Disk, w.Live).Steps
				d := cutSync(t, w, x.below(int64(len(p))+1), true, x.below(2) == 0, true)
				found += len(impl.PlanMount(d).Steps)
				w = mountOf(t, what, d)
				wantWords(t, what+": mounted", impl.CheckDisk(w.Disk), list(0, 0, 0, 0, 0))
			}
			if step%10 == 9 {
				count += checkCutDisks(t, &x, what, w, step%20 == 9)
			}
		}
		if t.Failed() {
			t.FailNow()
		}
	}
	if count < 3000 || found < 100 {
		t.Errorf("%d disks alone, with %d steps of mounts", count, found)
	}
}

// Whatever stands on a disk.
func TestDisksByDiceThatAreLookedOver(t *testing.T) {
	x := dice(122)
	var count [11]int
	for row := range 3000 {
		d := diceMountDisk(&x)
		count[checkDisk(t, fmt.Sprint("row ", row), d)]++
	}
	for row := range 1000 {
		d := imageDisk(5, ownFs(diceWild(&x)))
		count[checkDisk(t, fmt.Sprint("wild row ", row), d)]++
	}
	wantCounts(t, count, impl.OK, impl.ErrForm, impl.ErrNone, impl.ErrText)
}

// What is repaired can be kept: on a disk of its own nothing is found, and calls
// that are asked of it leave it whole.
func TestRepairedTreesGoOn(t *testing.T) {
	x := dice(123)
	for row := range 800 {
		f := impl.RepairFs(diceWild(&x)).Fs
		what := fmt.Sprint("row ", row)
		wantWords(t, what, impl.CheckDisk(imageDisk(5, f)), list(0, 0, 0, 0, 0))
		for range 4 {
			r := impl.DoCall(f, diceCall(&x, modelPaths(f)), diceBusy(&x))
			wantCode(t, what, r.Code, impl.OK)
			f = r.Fs
			wantWords(t, what, impl.FindingsOf(f), list(0, 0, 0, 0, 0))
		}
	}
}

// A world by hand, of which every name leads to something: cut off at each step,
// with the mount behind it cut off as well.
func TestNothingIsFoundByHand(t *testing.T) {
	x := dice(124)
	base := syncOf(t, askAll(t, newWorld(t, 5), call(impl.CallDir, "/d"), call(impl.CallMake, "/a"), write("/a", 0, string(freshText(20))), link("/a", "/d/b")))
	all := map[string][]impl.Call{
		"nothing":      nil,
		"written":      {write("/a", 3, "new")},
		"unlinked":     {call(impl.CallUnlink, "/a")},
		"all gone":     {call(impl.CallUnlink, "/a"), call(impl.CallUnlink, "/d/b"), call(impl.CallRemove, "/d")},
		"a new one":    {call(impl.CallDir, "/d/e"), call(impl.CallMake, "/d/e/f"), write("/d/e/f", 5, "zzz")},
		"renamed over": {call(impl.CallMake, "/c"), write("/c", 0, "c"), rename("/c", "/a")},
	}
	for _, what := range slices.Sorted(maps.Keys(all)) {
		checkCutDisks(t, &x, what, askAll(t, base, all[what]...), true)
	}
}
