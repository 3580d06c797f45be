package tests

import (
	"bytes"
	"fmt"
	"maps"
	"slices"
	"testing"

	"loop.example/g00295/impl"
)

// fewPicks are none, all, every second, every other second, and one by dice, of
// so many puts.
func fewPicks(x *dice, n int) [][]bool {
	all := [][]bool{nil, slices.Repeat([]bool{true}, n), make([]bool, n), make([]bool, n), make([]bool, n)}
	for i := range n {
		all[2][i], all[3][i], all[4][i] = i%2 == 0, i%2 == 1, x.below(2) == 0
	}
	if n < 2 {
		return all[:1+n]
	}
	return all
}

// wantOneOf asks for the first of promise 15: what is mounted is all of what
// was kept, or all of what was synced, and no file has a byte that was not of
// it. It tells which.
func wantOneOf(t *testing.T, what string, d impl.Disk, w impl.World) bool {
	t.Helper()
	now := mountOf(t, what, d)
	wantNotFound(t, what+": behind the mount", now.Disk)
	if len(now.Disk.Cache) > 0 {
		t.Errorf("%s: something waits in Cache", what)
	}
	if !same(now.Live, now.Kept) {
		t.Errorf("%s: Live is %v, Kept is %v", what, now.Live, now.Kept)
	}
	was, isNew := w.Kept, same(now.Live, w.Live)
	if isNew {
		was = w.Live
	}
	if !same(now.Live, was) {
		t.Errorf("%s: %v is neither %v nor %v", what, now.Live, w.Kept, w.Live)
		return isNew
	}
	for at, size := range was.Inodes {
		if size.Kind != impl.KindFile {
			continue
		}
		if text := impl.BytesIn(now.Live, int64(at)); !bytes.Equal(text.Bytes, modelText(was, int64(at))) {
			t.Errorf("%s: file %d has %q, not %q", what, at, text.Bytes, modelText(was, int64(at)))
		}
	}
	return isNew
}

// wantCutMounts: whatever a mount is cut off at, and whatever of what was not
// flushed is there, there is what the mount would have told; so also once it is
// cut off again, and once more.
func wantCutMounts(t *testing.T, x *dice, what string, d impl.Disk, w impl.World, isNew bool) {
	t.Helper()
	most := int64(len(impl.PlanMount(d).Steps))
	for n := range most + 1 {
		for _, picks := range fewPicks(x, len(run(t, what, d, impl.PlanMount(d).Steps[:n]).Cache)) {
			half := cutMount(t, d, n, picks...)
			for again := range 3 {
				what := fmt.Sprintf("%s, the mount at %d of %d, picked %v, %d more", what, n, most, picks, again)
				if wantOneOf(t, what, half, w) != isNew {
					t.Errorf("%s: is it the new one: not %v", what, isNew)
				}
				next := impl.PlanMount(half).Steps
				ways := fewPicks(x, 10)
				half = cutMount(t, half, x.below(int64(len(next))+1), ways[x.below(int64(len(ways)))]...)
			}
		}
	}
}

// checkCutWorld asks for promise 15 of one world: a sync of it is cut off
// behind each number of steps. It tells how often what was kept was there, and
// how often what was synced.
func checkCutWorld(t *testing.T, x *dice, what string, w impl.World, mounts bool) (count [2]int) {
	t.Helper()
	before := ownWorld(w)
	p := impl.PlanSync(w.Disk, w.Live).Steps
	commit := impl.CommitAt(p).Value
	for n := range int64(len(p)) + 1 {
		waiting := len(run(t, what, w.Disk, p[:n]).Cache)
		for _, picks := range fewPicks(x, waiting) {
			d := cutSync(t, w, n, picks...)
			// Without steps the one is the other.
			isNew := len(p) == 0 || n > commit || n == commit && len(picks) > 0 && picks[0]
			what := fmt.Sprintf("%s, the sync at %d of %d, picked %v", what, n, len(p), picks)
			if wantOneOf(t, what, d, w) != isNew {
				t.Errorf("%s: is it the new one: not %v; the commit is at %d", what, isNew, commit)
			}
			if isNew {
				count[1]++
			} else {
				count[0]++
				if impl.ScanJournal(d).Found {
					t.Errorf("%s: a journal that was cut off ahead of its commit is one", what)
				}
			}
			if mounts {
				wantCutMounts(t, x, what, d, w, isNew)
			}
		}
		if t.Failed() {
			t.FailNow()
		}
	}
	if !same(w, before) {
		t.Errorf("%s: the world turned", what)
	}
	return count
}

// checkSyncedWorld asks for promise 14, and for the last of promise 15: behind
// a sync there is nothing more to be done, and a crash takes nothing.
func checkSyncedWorld(t *testing.T, x *dice, what string, w impl.World) impl.World {
	t.Helper()
	next := syncOf(t, w)
	if !same(next.Live, w.Live) || !same(next.Kept, w.Live) || len(next.Disk.Cache) > 0 {
		t.Errorf("%s: synced it is %v, of %v", what, next, w)
	}
	rise := codeIf(len(impl.PlanSync(w.Disk, w.Live).Steps) > 0, 1)
	wantNumber(t, what+": synced", impl.SeqOf(next.Disk), impl.SeqOf(w.Disk).Value+rise)
	wantSteps(t, what+": synced", impl.PlanSync(next.Disk, next.Live), nil)
	wantNotFound(t, what+": synced", next.Disk)
	for _, picks := range fewPicks(x, 5) {
		crashed := crash(t, next.Disk, picks...)
		wantDisk(t, what+": a crash behind a sync", crashed, next.Disk)
		wantWorld(t, what+": a crash behind a sync", impl.MountDisk(crashed), next)
	}
	return next
}

// A journey of a world from a new one on: calls of every kind, syncs, syncs that
// are cut off, mounts that are. Behind each of them it has no fault.
type voyage struct {
	world impl.World
	count map[string]int
}

// goOn does one thing by dice. A world is kept all the while by hand: what
// is live, and what was kept.
func (v *voyage) goOn(t *testing.T, x *dice, what string) {
	t.Helper()
	live, kept := v.world.Live, v.world.Kept
	switch x.below(12) {
	case 0:
		v.world = checkSyncedWorld(t, x, what, v.world)
		kept = live
		v.count["sync"]++
	case 1:
		v.world = mountOf(t, what, crash(t, v.world.Disk, true, false))
		live = kept
		v.count["crash"]++
	case 2, 3:
		p := impl.PlanSync(v.world.Disk, live).Steps
		n := x.below(int64(len(p)) + 1)
		ways := fewPicks(x, 12)
		d := cutSync(t, v.world, n, ways[x.below(5)]...)
		for range x.below(4) {
			d = cutMount(t, d, x.below(int64(len(impl.PlanMount(d).Steps))+1), ways[x.below(5)]...)
		}
		if len(p) > 0 && wantOneOf(t, what, d, v.world) {
			kept = live
			v.count["new"]++
		} else {
			v.count["old"]++
		}
		live = kept
		v.world = mountOf(t, what, d)
	default:
		r := impl.CallWorld(v.world, diceCall(x, modelPaths(live)))
		wantCode(t, what, r.Code, impl.OK)
		v.world, live = r.World, r.World.Live
		v.count["call"]++
		if r.Call.Reply != impl.OK {
			v.count["nothing"]++
		}
	}
	wantCode(t, what+": WorldFault", impl.WorldFault(v.world), impl.OK)
	wantCode(t, what+": by the model", modelWorld(v.world), impl.OK)
	if !same(v.world.Live, live) || !same(v.world.Kept, kept) {
		t.Errorf("%s: %v, not %v and %v", what, v.world, live, kept)
	}
}

func TestVoyages(t *testing.T) {
	x := dice(81)
	v := voyage{count: map[string]int{}}
	var count, cutCount [2]int
	for row := range 250 {
		v.world = newWorld(t, []int64{1 + x.below(59900), 59990, 1}[x.below(3)])
		for step := range 60 {
			if impl.SeqOf(v.world.Disk).Value == 60000 {
				break
			}
			what := fmt.Sprint("row ", row, ", step ", step)
			v.goOn(t, &x, what)
			if t.Failed() {
				t.FailNow()
			}
			if impl.SeqOf(v.world.Disk).Value == 60000 {
				continue
			}
			switch {
			case step%20 == 19 && row%3 == 0:
				n := checkCutWorld(t, &x, what, v.world, true)
				cutCount[0], cutCount[1] = cutCount[0]+n[0], cutCount[1]+n[1]
			case step%6 == 5:
				n := checkCutWorld(t, &x, what, v.world, false)
				count[0], count[1] = count[0]+n[0], count[1]+n[1]
			}
		}
	}
	for what, n := range map[string]int{"sync": 500, "crash": 500, "new": 150, "old": 500, "call": 5000, "nothing": 1000} {
		if v.count[what] < n {
			t.Errorf("%s: %d times alone", what, v.count[what])
		}
	}
	if min(count[0], count[1]) < 3000 || min(cutCount[0], cutCount[1]) < 300 {
		t.Errorf("too seldom old or new: %v, %v", count, cutCount)
	}
}

// Worlds by hand: from nothing to something and back, each with its mounts cut
// off.
func TestCutWorldsByHand(t *testing.T) {
	x := dice(82)
	text := string(freshText(32))
	first := askAll(t, newWorld(t, 5), call(impl.CallMake, "/a"), write("/a", 0, text), call(impl.CallDir, "/d"))
	checkCutWorld(t, &x, "from a new one", first, true)
	first = checkSyncedWorld(t, &x, "from a new one", first)
	all := map[string][]impl.Call{
		"written over":       {write("/a", 5, "over")},
		"cut to nothing":     {cut("/a", 0)},
		"cut and grown":      {cut("/a", 3), cut("/a", 30)},
		"renamed":            {rename("/a", "/d/b")},
		"renamed over":       {call(impl.CallMake, "/b"), write("/b", 0, "b"), rename("/b", "/a")},
		"linked":             {link("/a", "/d/b"), call(impl.CallUnlink, "/a")},
		"unlinked":           {call(impl.CallUnlink, "/a")},
		"all gone":           {call(impl.CallUnlink, "/a"), call(impl.CallRemove, "/d")},
		"unlinked, another":  {call(impl.CallUnlink, "/a"), call(impl.CallMake, "/c"), write("/c", 0, text)},
		"made, and gone":     {call(impl.CallMake, "/c"), write("/c", 0, "c"), call(impl.CallUnlink, "/c")},
		"all blocks":         {write("/a", 0, "1"), call(impl.CallMake, "/c"), write("/c", 0, text), call(impl.CallMake, "/e"), write("/e", 0, text), call(impl.CallMake, "/f"), write("/f", 0, text)},
		"as many as can be":  {call(impl.CallDir, "/d/a"), call(impl.CallDir, "/d/b"), call(impl.CallDir, "/d/c"), call(impl.CallDir, "/d/d"), call(impl.CallDir, "/d/e"), call(impl.CallDir, "/d/f"), call(impl.CallDir, "/d/f/g")},
		"the same, by turns": {rename("/a", "/b"), rename("/b", "/a")},
	}
	for _, what := range slices.Sorted(maps.Keys(all)) {
		w := askAll(t, first, all[what]...)
		checkCutWorld(t, &x, what, w, true)
		next := checkSyncedWorld(t, &x, what, w)
		gone := next
		for _, path := range modelPaths(next.Live) {
			gone = impl.CallWorld(gone, call(impl.CallUnlink, path)).World
		}
		checkCutWorld(t, &x, what+", then no file", gone, true)
		checkSyncedWorld(t, &x, what+", then no file", gone)
	}
}

// A sync is cut off, mounted, and begun again with something else: what stands
// in the journal of the first one is not taken for a part of the second.
func TestSyncsBehindCutSyncs(t *testing.T) {
	x := dice(83)
	base := checkSyncedWorld(t, &x, "the base", askAll(t, newWorld(t, 5), call(impl.CallDir, "/a"), call(impl.CallMake, "/f"), write("/f", 0, "first")))
	worlds := map[string][]impl.Call{
		"few":   {write("/f", 0, "FEW")},
		"some":  {write("/f", 0, "some"), call(impl.CallMake, "/g"), write("/g", 0, "more")},
		"many":  {call(impl.CallDir, "/b"), call(impl.CallDir, "/b/c"), call(impl.CallDir, "/b/d"), call(impl.CallMake, "/b/d/e"), write("/b/d/e", 0, "many bytes here"), rename("/f", "/b/f")},
		"fewer": {call(impl.CallUnlink, "/f")},
	}
	for _, one := range slices.Sorted(maps.Keys(worlds)) {
		first := askAll(t, base, worlds[one]...)
		for n := range len(impl.PlanSync(first.Disk, first.Live).Steps) + 1 {
			for _, picks := range fewPicks(&x, 8) {
				now := mountOf(t, one, cutSync(t, first, int64(n), picks...))
				for _, other := range slices.Sorted(maps.Keys(worlds)) {
					for _, c := range worlds[other] {
						now = impl.CallWorld(now, c).World
					}
					if n%4 == 0 {
						checkCutWorld(t, &x, fmt.Sprint(one, " at ", n, ", then ", other), now, false)
					}
					d := cutSync(t, now, x.below(int64(len(impl.PlanSync(now.Disk, now.Live).Steps))+1), picks...)
					wantOneOf(t, fmt.Sprint(one, " at ", n, ", then ", other), d, now)
					now = mountOf(t, other, d)
				}
			}
		}
	}
}
