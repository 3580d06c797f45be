package tests

import (
	"fmt"
	"slices"
	"testing"

	"loop.example/g00295/impl"
)

// modelStep is StepFault, told another way.
func modelStep(x impl.Step) int64 {
	if x.Flush {
		return codeIf(x.At != 0 || len(x.Words) != 0, impl.ErrForm)
	}
	return firstCode(codeIf(x.At < 0 || x.At > 46, impl.ErrRange), codeIf(len(x.Words) > 64, impl.ErrMany), codeIf(anyOutside(x.Words), impl.ErrRange))
}

// modelRun is RunSteps, told another way: the blocks and the cache are kept by
// hand.
func modelRun(d impl.Disk, all []impl.Step) impl.DiskResult {
	code := firstCode(impl.DiskFault(d), codeIf(len(d.Blocks) != 47, impl.ErrForm), codeIf(len(all) > 120, impl.ErrMany))
	blocks, cache := slices.Clone(d.Blocks), slices.Clone(d.Cache)
	for _, x := range all {
		if code = firstCode(code, modelStep(x), codeIf(!x.Flush && len(cache) == 200, impl.ErrMany)); code != impl.OK {
			return impl.DiskResult{Code: code}
		}
		if !x.Flush {
			cache = append(cache, impl.Put{At: x.At, Words: x.Words})
			continue
		}
		for _, p := range cache {
			blocks[p.At] = p.Words
		}
		cache = nil
	}
	if code != impl.OK {
		return impl.DiskResult{Code: code}
	}
	return impl.DiskResult{Disk: impl.Disk{Blocks: blocks, Cache: cache}}
}

// modelScan is ScanJournal, told another way.
func modelScan(d impl.Disk) impl.TxResult {
	seq := modelSeq(d)
	if seq.Code != impl.OK {
		return impl.TxResult{Code: seq.Code}
	}
	head := standing(d, 1)
	if len(head) < 3 || head[0] != 1 || head[1] != seq.Value || head[2] > 10 || int64(len(head)) != 3+head[2] {
		return impl.TxResult{}
	}
	found := impl.TxResult{Found: true}
	for row, at := range head[3:] {
		if at < 17 || at > 26 {
			return impl.TxResult{}
		}
		found.Puts = append(found.Puts, impl.Put{At: at, Words: standing(d, 2+int64(row))})
	}
	if keyOf(standing(d, 2+head[2])) != fmt.Sprintf("2 %d %d ", seq.Value, head[2]) {
		return impl.TxResult{}
	}
	return found
}

// modelHome is the steps behind the commit's flush.
func modelHome(seq int64, all []impl.Put) []impl.Step {
	var told []impl.Step
	for _, p := range all {
		told = append(told, stepOf(p.At, p.Words...))
	}
	return append(told, flushStep(), stepOf(0, 7, seq+1), flushStep())
}

func modelMount(d impl.Disk) impl.StepsResult {
	scan := modelScan(d)
	if seq := modelSeq(d).Value; scan.Found && seq < 60000 {
		return impl.StepsResult{Steps: modelHome(seq, scan.Puts)}
	}
	return impl.StepsResult{Code: scan.Code}
}

// modelSync is PlanSync, told another way: a disk that has the file system is
// held against the one that there is.
func modelSync(d impl.Disk, f impl.Fs) impl.StepsResult {
	seq := modelSeq(d)
	if code := firstCode(seq.Code, modelFault(f), codeIf(seq.Value == 60000, impl.ErrFull)); code != impl.OK {
		return impl.StepsResult{Code: code}
	}
	goal := imageDisk(seq.Value, f)
	differ := func(at int64) bool { return keyOf(goal.Blocks[at]) != keyOf(standing(d, at)) }
	head, told := list(1, seq.Value, 0), steps()
	used, _ := modelUsed(f.Inodes)
	for _, block := range used {
		if differ(27 + block) {
			told = append(told, stepOf(27+block, goal.Blocks[27+block]...))
		}
	}
	told = append(told, flushStep(), impl.Step{At: 1})
	place := len(told) - 1
	var changed []impl.Put
	for at := int64(17); at < 27; at++ {
		if differ(at) {
			head = append(head, at)
			head[2]++
			told = append(told, stepOf(1+head[2], goal.Blocks[at]...))
			changed = append(changed, putOf(at, goal.Blocks[at]...))
		}
	}
	if len(changed) == 0 {
		return impl.StepsResult{}
	}
	told[place].Words = head
	told = append(told, flushStep(), stepOf(2+head[2], 2, seq.Value, head[2]), flushStep())
	return impl.StepsResult{Steps: append(told, modelHome(seq.Value, changed)...)}
}

// modelCommit is CommitAt, told another way: from the last step on.
func modelCommit(all []impl.Step) impl.IntResult {
	if len(all) > 120 {
		return impl.IntResult{Code: impl.ErrMany}
	}
	for _, x := range all {
		if code := modelStep(x); code != impl.OK {
			return impl.IntResult{Code: code}
		}
	}
	r, flushed := impl.IntResult{Code: impl.ErrNone}, int64(len(all))
	for place, x := range slices.Backward(all) {
		if x.Flush {
			flushed = int64(place)
		} else if len(x.Words) == 3 && x.Words[0] == 2 && x.At > 0 && x.At < 17 {
			r = impl.IntResult{Value: flushed}
		}
	}
	return r
}

// checkJournal holds all that is told of a disk's journal against the model,
// and tells whether there is one.
func checkJournal(t *testing.T, what string, d impl.Disk) bool {
	t.Helper()
	scan := impl.ScanJournal(d)
	if want := modelScan(d); !same(scan, want) {
		t.Errorf("%s: ScanJournal %v, not %v, of %v", what, scan, want, d)
	}
	if mount, want := impl.PlanMount(d), modelMount(d); !same(mount, want) {
		t.Errorf("%s: PlanMount %v, not %v, of %v", what, mount, want, d)
	}
	return scan.Found
}

// checkPlan holds a sync against the model.
func checkPlan(t *testing.T, what string, d impl.Disk, f impl.Fs) impl.StepsResult {
	t.Helper()
	p := impl.PlanSync(d, f)
	if want := modelSync(d, f); !same(p, want) {
		t.Fatalf("%s: PlanSync %v, not %v, of %v on %v", what, p, want, f, d)
	}
	return p
}

// diceSteps are steps, most of which have no fault, and some of which are of
// the journal.
func diceSteps(x *dice, most int64) []impl.Step {
	var all []impl.Step
	for range x.below(most) {
		s := stepOf([]int64{x.below(47), x.below(20), x.below(4)}[x.below(3)], x.words()...)
		switch x.below(8) {
		case 0, 1:
			s = flushStep()
		case 2:
			s.Words = list(2, x.below(3), x.below(11), 0)[:3+x.below(8)/7]
		case 3:
			s.Words = list(1+x.below(2), 5, 2, 0)[:2+x.below(3)]
		}
		switch x.below(400) {
		case 0:
			s.At = list(-1, 47)[x.below(2)]
		case 1:
			s.Words = append(s.Words, 65536)
		case 2:
			s.Words = fill(65, 0)
		case 3:
			s.Flush = true
		}
		all = append(all, s)
	}
	return all
}

func TestStepsAgainstModel(t *testing.T) {
	x := dice(51)
	var count, commits [11]int
	for range 6000 {
		d := imageDisk(1+x.below(60000), diceTree(&x))
		for range []int64{0, x.below(5), x.below(5), 150 + x.below(51)}[x.below(4)] {
			d.Cache = append(d.Cache, impl.Put{At: x.below(47), Words: x.words()})
		}
		all := diceSteps(&x, []int64{4, 20, 60, 123}[x.below(4)])
		r, want := impl.RunSteps(d, all), modelRun(d, all)
		if !same(r, want) {
			t.Fatalf("RunSteps %v of %v: %v, not %v", all, d, r, want)
		}
		count[r.Code]++
		if at, is := impl.CommitAt(all), modelCommit(all); at != is {
			t.Fatalf("CommitAt %v: %v, not %v", all, at, is)
		}
		commits[impl.CommitAt(all).Code]++
		if r.Code != impl.OK {
			continue
		}
		// In two parts it comes to what it comes to in one.
		cut := x.below(int64(len(all)) + 1)
		wantDisk(t, "in two parts", run(t, "the second", run(t, "the first", d, all[:cut]), all[cut:]), r.Disk)
	}
	wantCounts(t, count, impl.OK, impl.ErrForm, impl.ErrMany, impl.ErrRange)
	wantCounts(t, commits, impl.OK, impl.ErrForm, impl.ErrMany, impl.ErrRange, impl.ErrNone)
}

// journalRows is a journal, whole.
func journalRows(seq int64, all ...impl.Put) [][]int64 {
	rows := [][]int64{list(1, seq, int64(len(all)))}
	for _, p := range all {
		rows[0] = append(rows[0], p.At)
		rows = append(rows, p.Words)
	}
	return append(rows, list(2, seq, int64(len(all))))
}

// diceJournal is a journal of this number with puts of inodes, mostly.
func diceJournal(x *dice, seq int64) [][]int64 {
	var all []impl.Put
	for range x.below(11) {
		all = append(all, impl.Put{At: 17 + x.below(10), Words: x.words()})
	}
	return journalRows(seq, all...)
}

// diceTurnJournal turns one thing of the rows of a journal.
func diceTurnJournal(x *dice, rows [][]int64) {
	row := []int64{0, int64(len(rows)) - 1, x.below(int64(len(rows)))}[x.below(3)]
	words := copyOfWords(rows[row])
	n := int64(len(words))
	switch x.below(5) {
	case 0:
		words = append(words, x.below(30))
	case 1:
		words = words[:max(n-1, 0)]
	default:
		if n > 0 {
			at := x.below(n)
			words[at] = []int64{words[at] + 1, max(words[at]-1, 0), x.below(30), x.below(65536)}[x.below(4)]
		}
	}
	rows[row] = words
}

func TestJournalsAgainstModel(t *testing.T) {
	x := dice(52)
	var found, none, last int
	for range 20000 {
		seq := list(1, 5, 59999, 60000)[x.below(4)]
		rows := diceJournal(&x, seq)
		for range x.below(3) {
			diceTurnJournal(&x, rows)
		}
		d := imageDisk(seq, tree(dir()))
		for i, words := range rows {
			if x.below(2) == 0 {
				d.Cache = append(d.Cache, impl.Put{At: 1 + int64(i), Words: words})
			} else {
				d.Blocks[1+i] = words
			}
		}
		if x.below(8) == 0 {
			d.Cache = append(d.Cache, putOf(0, 7, max(seq+x.below(3)-1, 1)))
		}
		if checkJournal(t, "by dice", d) {
			found++
			last += int(seq / 60000)
		} else {
			none++
		}
		if t.Failed() {
			t.FailNow()
		}
	}
	if min(found, none, last) < 1000 {
		t.Errorf("too few of something: %d found, %d not, %d of the last number", found, none, last)
	}
}

// Syncs of file systems by dice, whole and not, on disks that have others.
func TestPlansAgainstModel(t *testing.T) {
	x := dice(53)
	var count [11]int
	var nothing int
	for range 4000 {
		old, f := diceBytes(&x, shuffled(&x, diceTree(&x))), diceBytes(&x, shuffled(&x, diceTree(&x)))
		switch x.below(6) {
		case 0:
			f = old
		case 1:
			f = moved(&x, old)
		case 2:
			diceFault(&x, &f)
		}
		d := imageDisk([]int64{1 + x.below(60000), 60000, 59999, 5}[x.below(4)], old)
		for range x.below(8) - 4 {
			diceTurnDisk(&x, &d)
		}
		p := checkPlan(t, "by dice", d, f)
		count[p.Code]++
		if p.Code == impl.OK && len(p.Steps) == 0 {
			nothing++
		}
	}
	wantCounts(t, count, impl.OK, impl.ErrForm, impl.ErrText, impl.ErrFull)
	if nothing < 100 {
		t.Errorf("%d syncs of nothing", nothing)
	}
}
