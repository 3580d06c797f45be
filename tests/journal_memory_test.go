package tests

import (
	"math"
	"slices"
	"testing"

	"loop.example/g00295/impl"
)

// checkStepCalls, checkSyncCalls and checkJournalCalls ask all functions of
// chapter 13 for promise 1.
func checkStepCalls(t *testing.T, what string, d impl.Disk, lists ...[]impl.Step) {
	t.Helper()
	for _, all := range append(lists, nil, steps()) {
		checkCall(t, what+": RunSteps", impl.RunSteps, d, all)
		checkCall(t, what+": CommitAt", impl.CommitAt, all)
		for _, x := range all[:min(len(all), 5)] {
			checkCall(t, what+": StepFault", impl.StepFault, x)
		}
	}
}

func checkSyncCalls(t *testing.T, what string, d impl.Disk, f impl.Fs) {
	t.Helper()
	told := checkCall(t, what+": PlanSync", impl.PlanSync, d, f).(impl.StepsResult)
	if told.Code == impl.OK {
		checkStepCalls(t, what, d, told.Steps, told.Steps[:len(told.Steps)/2])
	}
}

func checkJournalCalls(t *testing.T, what string, d impl.Disk) {
	t.Helper()
	checkCall(t, what+": ScanJournal", impl.ScanJournal, d)
	checkCall(t, what+": PlanMount", impl.PlanMount, d)
}

// roomySteps have room behind their ends, and share memory.
func roomySteps() []impl.Step {
	words := list(2, 5, 0, 1, 5, 0, 7, 8)
	all := steps(impl.Step{At: 2, Words: words[:3]}, impl.Step{At: 2, Words: words[:3]}, impl.Step{Flush: true, Words: words[:0]}, impl.Step{At: 17, Words: words[1:4]}, impl.Step{At: 18, Words: words[4:4]}, stepOf(47))
	return all[:5]
}

func TestJournalPromiseOne(t *testing.T) {
	for i, f := range memoryTrees() {
		checkSyncCalls(t, "a tree on a new disk", formatted(t, 5), f)
		if len(f.Inodes) <= 10 {
			checkSyncCalls(t, "a tree on its own disk", imageDisk(5, f), f)
			checkJournalCalls(t, "its disk", imageDisk(5, f))
		}
		if t.Failed() {
			t.Fatal("at file system ", i)
		}
	}
	for i, c := range imageTrees() {
		d := withOldJournal(imageDisk(5, c.fs), i)
		if i%5 == 0 {
			checkSyncCalls(t, c.what, d, tenInodes())
		}
		checkSyncCalls(t, c.what, imageDisk(60000, c.fs), c.fs)
		checkJournalCalls(t, c.what, d)
		checkJournalCalls(t, c.what, withJournal(d, journalRows(5, somePuts(i%12)...)...))
		if p := impl.PlanSync(d, tenInodes()); p.Code == impl.OK {
			checkJournalCalls(t, c.what+", cut off", run(t, c.what, d, p.Steps[:len(p.Steps)*2/3]))
		}
	}
	for _, c := range memoryDisks() {
		checkJournalCalls(t, c.what, c.disk)
		checkSyncCalls(t, c.what, c.disk, tenInodes())
		checkStepCalls(t, c.what, c.disk, roomySteps(), slices.Repeat(steps(flushStep()), 121))
	}
	for _, c := range diskTurns() {
		d := imageDisk(5, turnedTree())
		c.do(&d)
		checkJournalCalls(t, c.what, d)
		checkSyncCalls(t, c.what, d, tree(dir()))
		checkStepCalls(t, c.what, d, roomySteps())
	}
	for _, c := range allSteps() {
		checkStepCalls(t, c.what, formatted(t, 5), steps(c.step), append(roomySteps(), c.step, c.step), slices.Repeat(steps(c.step), 121))
	}
}

func TestJournalsAtFarArguments(t *testing.T) {
	far := list(math.MinInt64, math.MinInt64+1, -1<<32, -1, 0, 1, 2, 46, 47, 59999, 60000, 60001, 1<<32, 1<<32+1, math.MaxInt64-1, math.MaxInt64)
	for _, n := range far {
		for _, words := range [][]int64{nil, list(n), list(2, n, n), fill(64, n), fill(65, n)} {
			for _, at := range far {
				for _, flushed := range []bool{false, true} {
					x := impl.Step{Flush: flushed, At: at, Words: words}
					if code := checkCall(t, "StepFault", impl.StepFault, x); code != modelStep(x) {
						t.Errorf("StepFault %v: %v", x, code)
					}
				}
			}
			checkStepCalls(t, "far", formatted(t, 5), steps(impl.Step{At: n, Words: words}), steps(flushStep(), impl.Step{At: 2, Words: words}))
		}
		for row := range 3 {
			d := withJournal(formatted(t, 5), journalRows(5, putOf(17, 2, 0, 0, 0))...)
			for place := range d.Blocks[1+row] {
				turned := withJournal(formatted(t, 5), journalRows(5, putOf(17, 2, 0, 0, 0))...)
				turned.Blocks[1+row][place] = n
				checkJournalCalls(t, "far", turned)
				checkSyncCalls(t, "far", turned, tree(dir(entry("a", 1)), dir()))
			}
			d.Blocks[0] = list(7, n)
			checkJournalCalls(t, "far", d)
			checkSyncCalls(t, "far", d, tree(dir()))
			d.Cache = puts(putOf(n, n))
			checkJournalCalls(t, "far", d)
		}
	}
	// Heads of as many words as there may be tell of blocks behind the last one.
	for n := range 66 {
		for said := range int64(66) {
			d := withJournal(formatted(t, 5), append(list(1, 5, said), fill(n, 20)...))
			checkCall(t, "a head", impl.ScanJournal, d)
		}
	}
	checkJournalCalls(t, "nothing", impl.Disk{})
	checkSyncCalls(t, "nothing", impl.Disk{}, impl.Fs{})
	checkStepCalls(t, "nothing", impl.Disk{}, make([]impl.Step, 3000), slices.Repeat(steps(flushStep()), 3000))
	checkStepCalls(t, "nothing in steps", formatted(t, 5), make([]impl.Step, 120), make([]impl.Step, 121))
	checkJournalCalls(t, "empty lists", impl.Disk{Blocks: [][]int64{}, Cache: puts()})
	checkSyncCalls(t, "empty lists", impl.Disk{Blocks: [][]int64{}, Cache: puts()}, impl.Fs{Inodes: inodes(), Data: [][]byte{}})
	checkJournalCalls(t, "many words", impl.Disk{Blocks: [][]int64{fill(70000, 7)}})
	checkStepCalls(t, "many words", formatted(t, 5), steps(impl.Step{At: 1, Words: fill(70000, 2)}), steps(impl.Step{Flush: true, Words: fill(70000, 2)}))
}

// Nil and empty lists are the same value, in what is asked and in what is
// answered.
func TestJournalsOfEmptyLists(t *testing.T) {
	d := formatted(t, 5)
	for at := range d.Blocks {
		if len(d.Blocks[at]) == 0 {
			d.Blocks[at] = []int64{}
		}
	}
	d.Cache = puts()
	f := impl.Fs{Inodes: inodes(impl.Inode{Kind: 2, Blocks: []int64{}, Entries: []impl.Entry{entry("a", 1)}}, impl.Inode{Kind: 1, Links: 1, Blocks: []int64{}, Entries: []impl.Entry{}}), Data: emptyData(20)}
	wantSteps(t, "PlanSync", impl.PlanSync(d, f), impl.PlanSync(formatted(t, 5), tree(dir(entry("a", 1)), file(1, 0))).Steps)
	wantSteps(t, "PlanSync of nothing", impl.PlanSync(d, impl.Fs{Inodes: inodes(dir([]impl.Entry{}...)), Data: emptyData(20)}), nil)
	wantNotFound(t, "nothing", d)
	for _, words := range [][]int64{nil, {}} {
		now := withJournal(d, list(1, 5, 1, 18), words, list(2, 5, 1))
		wantFound(t, "no words", now, puts(putOf(18)))
		wantDisk(t, "no words", run(t, "no words", d, steps(impl.Step{At: 0, Words: words}, impl.Step{Flush: true, Words: words})), impl.Disk{Blocks: append(emptyBlocks(17), append([][]int64{{2, 0, 0, 0}}, emptyBlocks(29)...)...)})
		wantNoNumber(t, "no words", impl.CommitAt(steps(impl.Step{At: 1, Words: words}, impl.Step{Flush: true, Words: words})), impl.ErrNone)
	}
	wantDisk(t, "no steps", run(t, "no steps", d, steps()), formatted(t, 5))
}

// The words of a put stand in two steps, and in two blocks; they are two lists.
func TestJournalsThatShare(t *testing.T) {
	f := tree(dir(entry("a", 1)), file(1, 9, 3, 4))
	p := impl.PlanSync(formatted(t, 5), f).Steps
	// The words of the first inode, in the journal and where it belongs.
	if !same(p[4].Words, p[9].Words) || p[9].At != 17 {
		t.Fatalf("%v, %v", p[4], p[9])
	}
	p[4].Words[0] = 99
	_ = append(p[4].Words, 98)
	_ = append(p[:4], stepOf(40))
	if p[9].Words[0] != 2 || !same(p[5].Words, list(1, 1, 9, 3, 4)) {
		t.Errorf("two steps share: %v, %v", p[9], p[5])
	}
	words := list(1, 5, 2, 18, 18)
	d := withJournal(formatted(t, 5), words, words[:3], words[:3], list(2, 5, 2))
	checkJournalCalls(t, "pieces", d)
	all := impl.ScanJournal(d).Puts
	all[0].Words[0] = 77
	if !same(all[1], putOf(18, 1, 5, 2)) || !same(words, list(1, 5, 2, 18, 18)) {
		t.Errorf("two puts share: %v, %v", all, words)
	}
	moves := impl.PlanMount(d).Steps
	moves[0].Words[0] = 76
	if !same(moves[1], stepOf(18, 1, 5, 2)) {
		t.Errorf("two steps share: %v", moves)
	}

	// One list in several steps, and in the disk as well.
	same3 := steps(impl.Step{At: 2, Words: words}, impl.Step{At: 3, Words: words}, impl.Step{At: 2, Words: words[:2]})
	checkStepCalls(t, "one list", d, same3, append(same3, flushStep()))
	done := run(t, "one list", d, same3)
	done.Cache[0].Words[0] = 75
	_ = append(done.Cache[2].Words, 74)
	if !same(done.Cache[1], putOf(3, 1, 5, 2, 18, 18)) || !same(words, list(1, 5, 2, 18, 18)) {
		t.Errorf("two puts share: %v, %v", done.Cache, words)
	}
}

// What stands in the room behind the ends of lists is neither read nor done.
func TestJournalsDoNotSeeRoom(t *testing.T) {
	d := formatted(t, 5)
	rows := journalRows(5, putOf(18, 0, 0, 0))
	for row := range rows {
		turned := slices.Clone(rows)
		turned[row] = rows[row][:len(rows[row])-1]
		if row == 1 {
			wantFound(t, "a word in the room", withJournal(d, turned...), puts(putOf(18, 0, 0)))
		} else {
			wantNotFound(t, "a word in the room", withJournal(d, turned...))
		}
		turned[row] = append(copyOfWords(rows[row]), 9)[:len(rows[row])]
		wantFound(t, "a word more in the room", withJournal(d, turned...), puts(putOf(18, 0, 0, 0)))
	}
	all := steps(impl.Step{At: 3, Words: list(2, 5, 0, 9)[:3]}, impl.Step{Flush: true, Words: list(1)[:0]}, stepOf(47))[:2]
	wantNumber(t, "room", impl.CommitAt(all), 1)
	wantRead(t, "room", run(t, "room", d, all), 3, 2, 5, 0)
	wantNoNumber(t, "room", impl.CommitAt(steps(impl.Step{At: 3, Words: list(2, 5, 0)[:2]})), impl.ErrNone)
	wantNumber(t, "a flush in the room", impl.CommitAt(steps(stepOf(3, 2, 5, 0), stepOf(4), flushStep())[:2]), 2)
}

// What is done with one answer is not seen in the next one.
func TestJournalsByTurns(t *testing.T) {
	f, d := turnedTree(), formatted(t, 5)
	want := modelSync(d, turnedTree()).Steps
	cut := run(t, "by turns", d, want[:modelCommit(want).Value+1])
	again := impl.Disk{Blocks: rackOfWords(cut.Blocks)}
	for range 2 {
		p := impl.PlanSync(d, f)
		wantSteps(t, "by turns", p, want)
		wantNumber(t, "by turns", impl.CommitAt(p.Steps), modelCommit(want).Value)
		scan := impl.ScanJournal(cut)
		wantTx(t, "by turns", scan, modelScan(again).Puts)
		mount := impl.PlanMount(cut)
		wantSteps(t, "by turns", mount, modelMount(again).Steps)
		done := run(t, "by turns", d, p.Steps)
		wantFs(t, "by turns", impl.LoadImage(done), turnedTree())
		for i := range p.Steps {
			p.Steps[i].Words = append(p.Steps[i].Words[:0], 9, 9)
			p.Steps[i].Flush = !p.Steps[i].Flush
		}
		for i := range scan.Puts {
			scan.Puts[i].Words = append(scan.Puts[i].Words[:0], 8)
			scan.Puts[i].At = 0
		}
		for i := range mount.Steps {
			mount.Steps[i].Words = append(mount.Steps[i].Words[:0], 7)
		}
		wantFs(t, "by turns", impl.LoadImage(done), turnedTree())
		done.Blocks[17][0], done.Blocks[0] = 1, nil
	}
	wantDisk(t, "by turns", cut, again)
	if !same(f, turnedTree()) || !same(d, formatted(t, 5)) {
		t.Error("arguments are changed")
	}
}

// rackOfWords is lists of words in memory of their own.
func rackOfWords(lists [][]int64) [][]int64 {
	var own [][]int64
	for _, words := range lists {
		own = append(own, copyOfWords(words))
	}
	return own
}
