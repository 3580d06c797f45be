package tests

import (
	"fmt"
	"slices"
	"testing"

	"loop.example/g00295/impl"
)

// cutting is a sync to be cut off: a disk that has one file system, and another
// one. A block that both of them have holds the same bytes in both.
type cutting struct {
	what string
	disk impl.Disk
	old  impl.Fs
	fs   impl.Fs
}

// checkWholeSync asks for the first half of promise 14, and gives the disk then.
func checkWholeSync(t *testing.T, what string, d impl.Disk, f impl.Fs) impl.Disk {
	t.Helper()
	p := checkPlan(t, what, d, f)
	seq := impl.SeqOf(d).Value
	done := run(t, what, d, p.Steps)
	wantFs(t, what+": behind the sync", impl.LoadImage(done), f)
	wantSteps(t, what+": a second sync", impl.PlanSync(done, f), nil)
	if len(p.Steps) == 0 {
		wantDisk(t, what+": no steps", done, d)
		return done
	}
	wantNumber(t, what+": behind the sync", impl.SeqOf(done), seq+1)
	wantNotFound(t, what+": behind the sync", done)
	if len(done.Cache) > 0 {
		t.Errorf("%s: not flushed: %v", what, done.Cache)
	}
	wantDisk(t, what+": a crash takes nothing", crash(t, done), done)
	return done
}

// waysToPick are some picks of so many puts: all of them where there are few,
// else none, all, each alone, each left out, and some by dice.
func waysToPick(x *dice, n int) [][]bool {
	var all [][]bool
	if n < 4 {
		for set := range 1 << n {
			picks := make([]bool, n)
			for i := range picks {
				picks[i] = set>>i&1 == 1
			}
			all = append(all, picks)
		}
		return all
	}
	every := slices.Repeat([]bool{true}, n)
	all = append(all, nil, every)
	for i := range n {
		alone, without := make([]bool, n), slices.Clone(every)
		alone[i], without[i] = true, false
		all = append(all, alone, without)
	}
	for range 4 {
		picks := make([]bool, n)
		for i := range picks {
			picks[i] = x.below(2) == 1
		}
		all = append(all, picks)
	}
	return all
}

// checkCutSync asks for the second half of promise 14: each beginning of a sync
// is done, and what was not flushed is picked in several ways. It tells how
// often the old one was there, and how often the new one.
func checkCutSync(t *testing.T, x *dice, c cutting) (count [2]int) {
	t.Helper()
	wantFs(t, c.what+": the old one", impl.LoadImage(c.disk), c.old)
	p := checkPlan(t, c.what, c.disk, c.fs).Steps
	if len(p) == 0 {
		return count
	}
	commit := impl.CommitAt(p)
	if commit != modelCommit(p) || !same(p[commit.Value], flushStep()) {
		t.Fatalf("%s: CommitAt %v of %v", c.what, commit, p)
	}
	for n := range len(p) + 1 {
		done := run(t, c.what, c.disk, p[:n])
		for _, picks := range waysToPick(x, len(done.Cache)) {
			// Behind the flush it is there for good; ahead of it, but put, the
			// pick of that one put tells.
			isNew := int64(n) > commit.Value
			if int64(n) == commit.Value {
				isNew = picks[0]
			}
			what := fmt.Sprintf("%s, cut off at %d of %d, picked %v", c.what, n, len(p), picks)
			checkMounted(t, what, crash(t, done, picks...), c, isNew)
			if isNew {
				count[1]++
			} else {
				count[0]++
			}
		}
		if t.Failed() {
			t.FailNow()
		}
	}
	return count
}

// checkMounted mounts a disk on which a sync was cut off.
func checkMounted(t *testing.T, what string, d impl.Disk, c cutting, isNew bool) {
	t.Helper()
	want, number := c.old, impl.SeqOf(c.disk).Value
	// A journal that was put whole is one until the number is another one.
	found := isNew && impl.SeqOf(d).Value == number
	if isNew {
		want, number = c.fs, number+1
	}
	if checkJournal(t, what, d) != found {
		t.Errorf("%s: %v, is it found: %v", what, impl.ScanJournal(d), found)
	}
	mounted := run(t, what, d, impl.PlanMount(d).Steps)
	wantFs(t, what+": behind the mount", impl.LoadImage(mounted), want)
	wantNumber(t, what+": behind the mount", impl.SeqOf(mounted), number)
	wantNotFound(t, what+": behind the mount", mounted)
	wantDisk(t, what+": not flushed", crash(t, mounted), mounted)
}

// cutAndMend is a sync that is cut off, mounted, and done once more; the mount
// is cut off as well.
func cutAndMend(t *testing.T, x *dice, c cutting) {
	t.Helper()
	p := impl.PlanSync(c.disk, c.fs).Steps
	n := x.below(int64(len(p)) + 1)
	done := run(t, c.what, c.disk, p[:n])
	ways := waysToPick(x, len(done.Cache))
	d := crash(t, done, ways[x.below(int64(len(ways)))]...)
	want := impl.LoadImage(run(t, c.what, d, impl.PlanMount(d).Steps))
	for range 3 {
		mount := impl.PlanMount(d).Steps
		half := run(t, c.what, d, mount[:x.below(int64(len(mount))+1)])
		ways = waysToPick(x, len(half.Cache))
		d = crash(t, half, ways[x.below(int64(len(ways)))]...)
		wantFs(t, c.what+": a mount that was cut off", impl.LoadImage(run(t, c.what, d, impl.PlanMount(d).Steps)), want.Fs)
	}
	d = run(t, c.what, d, impl.PlanMount(d).Steps)
	checkWholeSync(t, c.what+": once more", d, c.fs)
}

// awayFrom is a file system in blocks that another one does not have, as many
// as there are; else it is none.
func awayFrom(f, other impl.Fs) (impl.Fs, bool) {
	used, _ := modelUsed(other.Inodes)
	free := without(used...)
	next := impl.Fs{Inodes: slices.Clone(f.Inodes), Data: make([][]byte, 20)}
	for i, x := range f.Inodes {
		if len(x.Blocks) > len(free) {
			return impl.Fs{}, false
		}
		next.Inodes[i].Blocks = copyOfWords(free[:len(x.Blocks)])
		for number, block := range x.Blocks {
			next.Data[free[number]] = f.Data[block]
		}
		free = free[len(x.Blocks):]
	}
	return next, true
}

// withOldJournal has in its journal what a disk of this number may have there:
// nothing, the last sync, one that was cut off ahead of its commit, or words
// that are none.
func withOldJournal(d impl.Disk, number int) impl.Disk {
	seq := d.Blocks[0][1]
	rows := journalRows(seq-1, somePuts(number%11)...)
	switch number % 4 {
	case 1:
		return withJournal(d, rows...)
	case 2:
		rows[0][1] = seq
		return withJournal(d, rows[:len(rows)-1]...)
	case 3:
		return withJournal(d, fullBlocks(16)...)
	}
	return d
}

// cuttingsByHand go from each tree to the ones behind it, to what comes of it
// by a few calls, and back to the top alone.
func cuttingsByHand(t *testing.T) []cutting {
	var all []cutting
	add := func(what string, old, f impl.Fs) {
		d := withOldJournal(imageDisk(2+int64(len(all)*97%59998), old), len(all))
		all = append(all, cutting{what, d, old, f})
	}
	trees := append(imageTrees(), fileTree{"ten inodes", tenInodes()}, fileTree{"all blocks", fullFiles()})
	for i, c := range trees {
		other := trees[(i+7)%len(trees)]
		if f, is := awayFrom(other.fs, c.fs); is {
			add(c.what+", then "+other.what, c.fs, f)
		}
		add("from nothing to "+c.what, impl.NewFs(nil).Fs, c.fs)
		add("from "+c.what+" to nothing", c.fs, impl.NewFs(nil).Fs)
		f := c.fs
		busy := impl.BusyOf(c.fs).List
		for _, call := range []impl.Call{{Kind: impl.CallMake, Path: "/new"}, {Kind: impl.CallWrite, Path: "/new", Data: []byte("new bytes")}, {Kind: impl.CallRename, Path: "/a", To: "/z"}, {Kind: impl.CallCut, Path: "/b", Size: 3}, {Kind: impl.CallUnlink, Path: "/c"}} {
			f = impl.DoCall(f, call, busy).Fs
		}
		add(c.what+" and calls", c.fs, f)
	}
	return all
}

func TestSyncsByHand(t *testing.T) {
	x := dice(61)
	var count [2]int
	for i, c := range cuttingsByHand(t) {
		checkWholeSync(t, c.what, c.disk, c.fs)
		if i%5 == 0 || len(impl.PlanSync(c.disk, c.fs).Steps) < 14 {
			n := checkCutSync(t, &x, c)
			count[0], count[1] = count[0]+n[0], count[1]+n[1]
		}
		cutAndMend(t, &x, c)
		if t.Failed() {
			t.FailNow()
		}
	}
	if min(count[0], count[1]) < 2000 {
		t.Errorf("too seldom old or new: %v", count)
	}
}

// A sync of any other file system, on a disk that is right or spoilt, with and
// without puts that wait in its cache: done whole it is there, though a crash
// might have taken both where they have blocks in common.
func TestWholeSyncsByDice(t *testing.T) {
	x := dice(62)
	for row := range 1500 {
		old, f := diceBytes(&x, shuffled(&x, diceTree(&x))), diceBytes(&x, shuffled(&x, diceTree(&x)))
		d := withOldJournal(imageDisk(1+x.below(59998)+1, old), row)
		for range x.below(4) * x.below(20) {
			d.Cache = append(d.Cache, impl.Put{At: 1 + x.below(46), Words: x.words()})
		}
		if len(impl.PlanSync(d, f).Steps) == 0 {
			continue
		}
		d = checkWholeSync(t, fmt.Sprint("row ", row), d, f)
		if x.below(2) == 0 {
			checkWholeSync(t, fmt.Sprint("row ", row, ", and back"), d, old)
		}
		if t.Failed() {
			t.FailNow()
		}
	}
}

func TestCutSyncsByDice(t *testing.T) {
	x := dice(63)
	var count [2]int
	for row := range 70 {
		old := diceBytes(&x, shuffled(&x, diceTree(&x)))
		f, is := awayFrom(diceBytes(&x, shuffled(&x, []impl.Fs{diceTree(&x), diceDeep(&x)}[row%2])), old)
		if !is {
			continue
		}
		c := cutting{fmt.Sprint("row ", row), withOldJournal(imageDisk(2+x.below(59998), old), row), old, f}
		n := checkCutSync(t, &x, c)
		count[0], count[1] = count[0]+n[0], count[1]+n[1]
		cutAndMend(t, &x, c)
	}
	if min(count[0], count[1]) < 2000 {
		t.Errorf("too seldom old or new: %v", count)
	}
}

// Rows of calls, with a sync behind some of them: the blocks of what was synced
// last are busy. The disk goes on from sync to sync.
func TestCutSyncsBehindCalls(t *testing.T) {
	x := dice(64)
	var count [2]int
	var syncs int
	for row := range 300 {
		kept := diceStart(&x)
		d := withOldJournal(imageDisk(2+x.below(50000), kept), row)
		live := kept
		for step := range 30 {
			busy := impl.BusyOf(kept).List
			live = impl.DoCall(live, diceCall(&x, modelPaths(live)), busy).Fs
			if x.below(3) > 0 || impl.SameFs(live, kept) {
				continue
			}
			c := cutting{fmt.Sprint("row ", row, ", step ", step), d, kept, live}
			if x.below(2) == 0 {
				n := checkCutSync(t, &x, c)
				count[0], count[1] = count[0]+n[0], count[1]+n[1]
			}
			cutAndMend(t, &x, c)
			d = checkWholeSync(t, c.what, d, live)
			kept = live
			syncs++
		}
		if t.Failed() {
			t.FailNow()
		}
	}
	if min(count[0], count[1]) < 3000 || syncs < 600 {
		t.Errorf("too seldom old or new: %v, of %d syncs", count, syncs)
	}
}
