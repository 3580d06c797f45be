package tests

import (
	"fmt"
	"math"
	"slices"
	"testing"

	"loop.example/g00295/impl"
)

type stepCase struct {
	what string
	step impl.Step
	code int64
}

// rightSteps have no fault, though they stand at the bounds.
func rightSteps() []stepCase {
	return []stepCase{
		{"a flush", flushStep(), impl.OK},
		{"a flush of an empty list", impl.Step{Flush: true, Words: []int64{}}, impl.OK},
		{"a flush of a list with room", impl.Step{Flush: true, Words: list(1, 2)[:0]}, impl.OK},
		{"nothing", impl.Step{}, impl.OK},
		{"no words", stepOf(5), impl.OK},
		{"an empty list", impl.Step{At: 5, Words: []int64{}}, impl.OK},
		{"At 0", stepOf(0, 7, 5), impl.OK},
		{"At 46", stepOf(46, 1), impl.OK},
		{"63 words", impl.Step{At: 2, Words: fill(63, 9)}, impl.OK},
		{"64 words", impl.Step{At: 2, Words: fill(64, 65535)}, impl.OK},
		{"words 0 and 65535", stepOf(3, 0, 65535), impl.OK},
	}
}

func wrongSteps() []stepCase {
	all := []stepCase{
		{"a flush with words", impl.Step{Flush: true, Words: list(1)}, impl.ErrForm},
		{"a flush with a word of 0", impl.Step{Flush: true, Words: list(0)}, impl.ErrForm},
		{"a flush with 65 words", impl.Step{Flush: true, Words: fill(65, 0)}, impl.ErrForm},
		{"a flush with a word below 0", impl.Step{Flush: true, Words: list(-1)}, impl.ErrForm},
		{"a flush with an At and words", impl.Step{Flush: true, At: 3, Words: list(1)}, impl.ErrForm},
		{"a flush with an At and an empty list", impl.Step{Flush: true, At: 3, Words: []int64{}}, impl.ErrForm},
		{"a flush of no place with 65 words", impl.Step{Flush: true, At: 47, Words: fill(65, -1)}, impl.ErrForm},
		{"65 words", impl.Step{At: 2, Words: fill(65, 1)}, impl.ErrMany},
		{"many words", impl.Step{At: 2, Words: fill(70000, 1)}, impl.ErrMany},
		{"65 words below 0", impl.Step{At: 2, Words: fill(65, -1)}, impl.ErrMany},
		{"65 words at no place", impl.Step{At: 47, Words: fill(65, 1)}, impl.ErrRange},
		{"65 words at -1", impl.Step{At: -1, Words: fill(65, 1)}, impl.ErrRange},
	}
	for _, at := range list(1, 46, 47, -1, math.MinInt64, math.MaxInt64, 1<<32) {
		all = append(all, stepCase{fmt.Sprint("a flush at ", at), impl.Step{Flush: true, At: at}, impl.ErrForm})
	}
	for _, at := range list(-1, 47, 48, 60, -47, 1<<32, -1<<32, 1<<32+5, math.MinInt64, math.MaxInt64) {
		all = append(all, stepCase{fmt.Sprint("At ", at), stepOf(at, 1), impl.ErrRange}, stepCase{fmt.Sprint("no words at ", at), stepOf(at), impl.ErrRange})
	}
	for _, word := range list(-1, 65536, 65537, 1<<32, -1<<32, math.MinInt64, math.MaxInt64) {
		all = append(all, stepCase{fmt.Sprint("a word ", word), stepOf(4, word), impl.ErrRange},
			stepCase{fmt.Sprint("a word ", word, ", the last of 64"), impl.Step{At: 4, Words: append(fill(63, 0), word)}, impl.ErrRange})
	}
	return all
}

func allSteps() []stepCase {
	return append(rightSteps(), wrongSteps()...)
}

func TestStepFault(t *testing.T) {
	for _, c := range allSteps() {
		wantCode(t, c.what, impl.StepFault(c.step), c.code)
		wantCode(t, c.what+", by the model", modelStep(c.step), c.code)
	}
	for at := int64(-3); at < 64; at++ {
		for _, n := range []int{0, 1, 63, 64, 65, 66} {
			for _, word := range list(-1, 0, 1, 65535, 65536) {
				for _, flush := range []bool{false, true} {
					x := impl.Step{Flush: flush, At: at, Words: fill(n, word)}
					wantCode(t, fmt.Sprint(flush, at, n, word), impl.StepFault(x), modelStep(x))
				}
			}
		}
	}
}

func wantNoDisk(t *testing.T, what string, r impl.DiskResult, code int64) {
	t.Helper()
	if !same(r, impl.DiskResult{Code: code}) {
		t.Errorf("%s: %v, not code %d alone", what, r, code)
	}
}

func TestDiskFaultsAheadOfSteps(t *testing.T) {
	many := slices.Repeat(steps(flushStep()), 121)
	for _, c := range allDisks() {
		for what, all := range map[string][]impl.Step{"nil": nil, "a flush": many[:1], "a put": steps(stepOf(0, 1)), "121": many, "a wrong one": steps(stepOf(47)), "a put of no place of it": steps(stepOf(46))} {
			wantNoDisk(t, c.what+": "+what, impl.RunSteps(c.disk, all), firstCode(c.code, impl.ErrForm))
		}
		wantNoTx(t, c.what, impl.ScanJournal(c.disk), firstCode(c.code, impl.ErrForm))
		wantNoSteps(t, c.what, impl.PlanMount(c.disk), firstCode(c.code, impl.ErrForm))
		for _, f := range []impl.Fs{{}, tree(dir()), tree(file(1, 0))} {
			wantNoSteps(t, c.what, impl.PlanSync(c.disk, f), firstCode(c.code, impl.ErrForm))
		}
	}
	// All that can be wrong with a disk of the right size.
	for what, turn := range map[string]func(d *impl.Disk) int64{
		"nothing":                 func(d *impl.Disk) int64 { return impl.OK },
		"201 in Cache":            func(d *impl.Disk) int64 { d.Cache = emptyPuts(201); return impl.ErrMany },
		"65 words":                func(d *impl.Disk) int64 { d.Blocks[46] = fill(65, 0); return impl.ErrMany },
		"a word above 65535":      func(d *impl.Disk) int64 { d.Blocks[9] = list(65536); return impl.ErrRange },
		"a word below 0":          func(d *impl.Disk) int64 { d.Blocks[1] = list(1, 5, -1); return impl.ErrRange },
		"a put at 47":             func(d *impl.Disk) int64 { d.Cache = puts(putOf(47)); return impl.ErrRange },
		"a put at -1":             func(d *impl.Disk) int64 { d.Cache = puts(putOf(-1)); return impl.ErrRange },
		"65 words in Cache":       func(d *impl.Disk) int64 { d.Cache = puts(impl.Put{Words: fill(65, 0)}); return impl.ErrMany },
		"a word below 0 in Cache": func(d *impl.Disk) int64 { d.Cache = puts(putOf(1, 1, 5, -1)); return impl.ErrRange },
		"a block less":            func(d *impl.Disk) int64 { d.Blocks = d.Blocks[:46]; return impl.ErrForm },
		"a block more":            func(d *impl.Disk) int64 { d.Blocks = append(d.Blocks, nil); return impl.ErrForm },
	} {
		d := formatted(t, 5)
		code := turn(&d)
		wantCode(t, what+": ScanJournal", impl.ScanJournal(d).Code, code)
		wantCode(t, what+": PlanMount", impl.PlanMount(d).Code, code)
		wantCode(t, what+": PlanSync", impl.PlanSync(d, tree(dir())).Code, code)
		wantCode(t, what+": RunSteps", impl.RunSteps(d, steps(stepOf(3, 1), flushStep())).Code, code)
		if code != impl.OK {
			wantNoDisk(t, what, impl.RunSteps(d, nil), code)
			checkJournal(t, what, d)
			checkPlan(t, what, d, tree(dir()))
		}
	}
}

// Disks of other sizes are none for what is done, and for what is planned.
func TestHowManyBlocksStepsNeed(t *testing.T) {
	for n := range 70 {
		d := impl.Disk{Blocks: emptyBlocks(n)}
		if n > 0 {
			d.Blocks[0] = list(7, 5)
		}
		code := firstCode(codeIf(n > 60, impl.ErrMany), codeIf(n != 47, impl.ErrForm))
		for _, all := range [][]impl.Step{nil, steps(flushStep()), steps(stepOf(0, 3)), steps(stepOf(46))} {
			if r := impl.RunSteps(d, all); r.Code != code || !same(r, modelRun(d, all)) {
				t.Errorf("%d blocks: RunSteps %v: %v", n, all, r)
			}
		}
		wantCode(t, fmt.Sprint(n, " blocks: ScanJournal"), impl.ScanJournal(d).Code, code)
		wantCode(t, fmt.Sprint(n, " blocks: PlanMount"), impl.PlanMount(d).Code, code)
		wantCode(t, fmt.Sprint(n, " blocks: PlanSync"), impl.PlanSync(d, tree(dir())).Code, code)
	}
}

func TestFirstBlocksOfPlans(t *testing.T) {
	f := tree(dir(entry("a", 1)), file(1, 9, 3, 4))
	for _, c := range superCases() {
		d := withJournal(imageDisk(5, f), journalRows(5, putOf(17, 2, 0, 0, 0))...)
		d = put(t, d, 0, c.words...)
		for what, now := range map[string]impl.Disk{"in Cache": d, "flushed": flush(t, d)} {
			what := fmt.Sprint(c.words, " ", what)
			if c.code != impl.OK {
				wantNoTx(t, what, impl.ScanJournal(now), c.code)
				wantNoSteps(t, what, impl.PlanMount(now), c.code)
				wantNoSteps(t, what, impl.PlanSync(now, f), c.code)
				wantNoSteps(t, what, impl.PlanSync(now, impl.Fs{}), c.code)
			} else if checkJournal(t, what, now) != (c.number == 5) {
				t.Errorf("%s: %v", what, impl.ScanJournal(now))
			}
			// What is done does not ask for the number.
			wantDisk(t, what, run(t, what, now, steps(stepOf(3, 8))), put(t, now, 3, 8))
		}
	}
}

// How many steps there may be, and how many fill the cache.
func TestHowManySteps(t *testing.T) {
	d := formatted(t, 5)
	for _, n := range []int{0, 1, 2, 119, 120, 121, 122, 240, 70000} {
		code := codeIf(n > 120, impl.ErrMany)
		for what, x := range map[string]impl.Step{"flushes": flushStep(), "puts": stepOf(5, 1), "puts of no words": stepOf(46), "commits": stepOf(5, 2, 5, 0)} {
			all := slices.Repeat(steps(x), n)
			what := fmt.Sprint(n, " ", what)
			if r := impl.RunSteps(d, all); r.Code != code || !same(r, modelRun(d, all)) {
				t.Errorf("%s: RunSteps %v", what, r)
			}
			r := impl.CommitAt(all)
			if r != modelCommit(all) || r.Code != firstCode(code, codeIf(len(x.Words) < 3 || n == 0, impl.ErrNone)) {
				t.Errorf("%s: CommitAt %v", what, r)
			}
		}
	}
	for _, n := range []int{121, 200} {
		for _, c := range wrongSteps() {
			all := slices.Repeat(steps(c.step), n)
			wantNoDisk(t, fmt.Sprint(n, " of ", c.what), impl.RunSteps(d, all), impl.ErrMany)
			wantNoNumber(t, fmt.Sprint(n, " of ", c.what), impl.CommitAt(all), impl.ErrMany)
		}
	}
	wantNumber(t, "120, the last a commit", impl.CommitAt(append(slices.Repeat(steps(flushStep()), 119), stepOf(16, 2, 0, 0))), 120)
	wantNumber(t, "120, the first a commit, the last a flush", impl.CommitAt(append(append(steps(stepOf(1, 2, 0, 0)), slices.Repeat(steps(stepOf(1, 1)), 118)...), flushStep())), 119)
}

// A wrong step at each place among right ones: nothing of them is done.
func TestWrongStepsAmongRightOnes(t *testing.T) {
	d := formatted(t, 5)
	right := steps(stepOf(1, 1, 5, 1, 17), stepOf(2, 2, 0, 0, 0), flushStep(), stepOf(3, 2, 5, 1), flushStep(), stepOf(17, 2, 0, 0, 0), flushStep())
	for _, c := range allSteps() {
		for place := range len(right) + 1 {
			all := slices.Insert(slices.Clone(right), place, c.step)
			what := fmt.Sprint(c.what, " at ", place)
			if c.code == impl.OK {
				wantDisk(t, what, run(t, what, d, all), modelRun(d, all).Disk)
				continue
			}
			wantNoDisk(t, what, impl.RunSteps(d, all), c.code)
			// Ahead of the commit and behind it.
			wantNoNumber(t, what, impl.CommitAt(all), c.code)
			wantNoNumber(t, what+", no commit", impl.CommitAt(slices.Insert(slices.Clone(right[:3]), min(place, 3), c.step)), c.code)
		}
	}
	// Of two the first one tells.
	for _, c := range wrongSteps() {
		for _, other := range wrongSteps() {
			what := c.what + " ahead of " + other.what
			wantNoDisk(t, what, impl.RunSteps(d, steps(right[0], c.step, right[2], other.step)), c.code)
			wantNoNumber(t, what, impl.CommitAt(steps(right[3], c.step, right[2], other.step)), c.code)
		}
	}
}

// A put for which there is no room in Cache has the code of PutBlock, ahead of
// what is wrong with the steps behind it, and behind what is wrong ahead.
func TestStepsThatHaveNoRoom(t *testing.T) {
	for _, n := range []int{0, 1, 79, 80, 81, 150, 198, 199, 200} {
		d := formatted(t, 5)
		d.Cache = slices.Repeat(puts(putOf(4, 9)), n)
		for _, more := range []int{0, 1, 2, 50, 119, 120} {
			all := slices.Repeat(steps(stepOf(5, 1)), more)
			what := fmt.Sprint(more, " puts behind ", n)
			if n+more > 200 {
				wantNoDisk(t, what, impl.RunSteps(d, all), impl.ErrMany)
				for place := range all {
					if n+place <= 200 {
						flushed := slices.Clone(all)
						flushed[place] = flushStep()
						wantDisk(t, what+", a flush among them", run(t, what, d, flushed), modelRun(d, flushed).Disk)
					}
				}
				continue
			}
			wantDisk(t, what, run(t, what, d, all), impl.Disk{Blocks: d.Blocks, Cache: slices.Concat(d.Cache, slices.Repeat(puts(putOf(5, 1)), more))})
		}
	}
	full := formatted(t, 5)
	full.Cache = slices.Repeat(puts(putOf(4, 9)), 200)
	for _, c := range wrongSteps() {
		wantNoDisk(t, "no room, then "+c.what, impl.RunSteps(full, steps(stepOf(5, 1), c.step)), impl.ErrMany)
		wantNoDisk(t, c.what+", then no room", impl.RunSteps(full, steps(c.step, stepOf(5, 1))), c.code)
		wantNoDisk(t, "room, then "+c.what, impl.RunSteps(full, steps(flushStep(), stepOf(5, 1), c.step)), c.code)
	}
	wantNoDisk(t, "room too late", impl.RunSteps(full, steps(stepOf(5, 1), flushStep())), impl.ErrMany)
	wantDisk(t, "room", run(t, "room", full, steps(flushStep(), stepOf(5, 1))), put(t, flush(t, full), 5, 1))
	wantDisk(t, "no step", run(t, "no step", full, nil), full)
}

// mishap is a set of things that are wrong, one bit each. They are asked in the
// order in which their codes come.
type mishap struct {
	set  int
	bit  int
	code int64
}

func (w *mishap) has(code int64) bool {
	is := w.set>>w.bit&1 == 1
	w.bit++
	w.code = firstCode(w.code, codeIf(is, code))
	return is
}

// turn is the first three of them: the faults of a disk, and its size.
func (w *mishap) turn(d *impl.Disk) {
	if w.has(impl.ErrMany) {
		d.Cache = emptyPuts(201)
	}
	if w.has(impl.ErrRange) {
		d.Blocks[46] = list(65536)
	}
	if w.has(impl.ErrForm) {
		d.Blocks = append(d.Blocks, nil)
	}
}

// All that may be wrong with what RunSteps is told, together.
func TestWhichCodeOfRunStepsComesFirst(t *testing.T) {
	for set := range 1 << 7 {
		w, d := mishap{set: set}, formatted(t, 5)
		all := steps(stepOf(3, 1))
		w.turn(&d)
		if w.has(impl.ErrMany) {
			all = append(all, slices.Repeat(steps(flushStep()), 130)...)
		}
		if w.has(impl.ErrForm) {
			all = slices.Insert(all, 0, impl.Step{Flush: true, At: 1})
		}
		if w.has(impl.ErrMany) && len(d.Cache) == 0 {
			d.Cache = emptyPuts(200)
		}
		if w.has(impl.ErrRange) {
			all = append(all, stepOf(47))
		}
		what := fmt.Sprint("set ", set)
		if w.code != impl.OK {
			wantNoDisk(t, what, impl.RunSteps(d, all), w.code)
		} else {
			wantDisk(t, what, run(t, what, d, all), put(t, d, 3, 1))
		}
	}
}

// All that may be wrong with what PlanSync is told, together: the disk, its
// number, the file system, and the number that has none behind it.
func TestWhichCodeOfPlanSyncComesFirst(t *testing.T) {
	for set := range 1 << 6 {
		w, d, f := mishap{set: set}, imageDisk(5, turnedTree()), turnedTree()
		w.turn(&d)
		isNone := w.has(impl.ErrText)
		if w.has(impl.ErrNone) {
			f.Inodes[2].Entries[1].Inode = 5
		}
		if w.has(impl.ErrFull) {
			d.Blocks[0] = list(7, 60000)
		}
		if isNone {
			d.Blocks[0] = list(7, 60001)
		}
		what := fmt.Sprint("set ", set)
		if w.code != impl.OK {
			wantNoSteps(t, what, impl.PlanSync(d, f), w.code)
			wantNoSteps(t, what+", by the model", modelSync(d, f), w.code)
		} else {
			wantSteps(t, what, impl.PlanSync(d, f), nil)
		}
	}
}

// Each fault that a file system may have, on disks of each kind of number.
func TestFsFaultsOfPlanSync(t *testing.T) {
	for _, c := range append(turnedTrees(), faultyTrees()...) {
		for _, seq := range list(1, 5, 59999, 60000) {
			r := impl.PlanSync(formatted(t, seq), c.fs)
			wantCode(t, fmt.Sprint(c.what, " on ", seq), r.Code, firstCode(c.code, codeIf(seq == 60000, impl.ErrFull)))
			if r.Code != impl.OK {
				wantNoSteps(t, c.what, r, r.Code)
			}
		}
		d := formatted(t, 5)
		d.Blocks[0] = list(8, 5)
		wantNoSteps(t, c.what, impl.PlanSync(d, c.fs), impl.ErrText)
	}
}

// The greatest number has none behind it: there is neither a sync, not even one
// of nothing, nor a mount of what is found.
func TestTheLastNumber(t *testing.T) {
	f, top := tree(dir(entry("a", 1)), file(1, 9, 3, 4)), tree(dir())
	for _, seq := range list(1, 2, 59998, 59999, 60000) {
		what := fmt.Sprint("number ", seq)
		d := formatted(t, seq)
		found := withJournal(d, journalRows(seq, putOf(18, 0, 0, 0), putOf(17, 2, 0, 0, 0))...)
		wantTx(t, what, impl.ScanJournal(found), puts(putOf(18, 0, 0, 0), putOf(17, 2, 0, 0, 0)))
		if seq == 60000 {
			wantNoSteps(t, what, impl.PlanSync(d, f), impl.ErrFull)
			wantNoSteps(t, what+", of nothing", impl.PlanSync(d, top), impl.ErrFull)
			wantSteps(t, what, impl.PlanMount(found), nil)
			continue
		}
		wantSteps(t, what, impl.PlanMount(found), steps(stepOf(18, 0, 0, 0), stepOf(17, 2, 0, 0, 0), flushStep(), stepOf(0, 7, seq+1), flushStep()))
		wantSteps(t, what+", of nothing", impl.PlanSync(d, top), nil)
		p := checkPlan(t, what, d, f)
		if n := len(p.Steps); n != 14 || !same(p.Steps[12], stepOf(0, 7, seq+1)) {
			t.Errorf("%s: %d steps: %v", what, n, p)
		}
		wantNumber(t, what, impl.SeqOf(run(t, what, d, p.Steps)), seq+1)
	}
}
