package tests

import (
	"fmt"
	"slices"
	"testing"

	"loop.example/g00295/impl"
)

// The names and signatures of chapter 13, as the document has them.
var (
	_ func(impl.Step) int64                        = impl.StepFault
	_ func(impl.Disk, impl.Fs) impl.StepsResult    = impl.PlanSync
	_ func(impl.Disk) impl.TxResult                = impl.ScanJournal
	_ func(impl.Disk) impl.StepsResult             = impl.PlanMount
	_ func(impl.Disk, []impl.Step) impl.DiskResult = impl.RunSteps
	_ func([]impl.Step) impl.IntResult             = impl.CommitAt
	_                                              = impl.Step{Flush: false, At: int64(0), Words: []int64(nil)}
	_                                              = impl.StepsResult{Code: int64(0), Steps: []impl.Step(nil)}
	_                                              = impl.TxResult{Code: int64(0), Found: false, Puts: []impl.Put(nil)}
)

func steps(list ...impl.Step) []impl.Step {
	return list
}

func stepOf(at int64, words ...int64) impl.Step {
	return impl.Step{At: at, Words: words}
}

func flushStep() impl.Step {
	return impl.Step{Flush: true}
}

func wantSteps(t *testing.T, what string, r impl.StepsResult, want []impl.Step) {
	t.Helper()
	if !same(r, impl.StepsResult{Steps: want}) {
		t.Errorf("%s: %v, not %v", what, r, want)
	}
}

func wantNoSteps(t *testing.T, what string, r impl.StepsResult, code int64) {
	t.Helper()
	if !same(r, impl.StepsResult{Code: code}) {
		t.Errorf("%s: %v, not code %d alone", what, r, code)
	}
}

func wantTx(t *testing.T, what string, r impl.TxResult, want []impl.Put) {
	t.Helper()
	if !same(r, impl.TxResult{Found: true, Puts: want}) {
		t.Errorf("%s: %v, not found %v", what, r, want)
	}
}

// wantNoTx: nothing was found, or there is a code.
func wantNoTx(t *testing.T, what string, r impl.TxResult, code int64) {
	t.Helper()
	if !same(r, impl.TxResult{Code: code}) {
		t.Errorf("%s: %v, not code %d alone", what, r, code)
	}
}

// run does steps that have no fault.
func run(t *testing.T, what string, d impl.Disk, all []impl.Step) impl.Disk {
	t.Helper()
	r := impl.RunSteps(d, all)
	if r.Code != impl.OK {
		t.Fatalf("%s: RunSteps: code %d", what, r.Code)
	}
	return r.Disk
}

// withJournal has these rows in its journal, from its first block on.
func withJournal(d impl.Disk, rows ...[]int64) impl.Disk {
	next := impl.Disk{Blocks: slices.Clone(d.Blocks), Cache: slices.Clone(d.Cache)}
	for i, words := range rows {
		next.Blocks[1+i] = words
	}
	return next
}

// A sync, a mount and where the commit stands, written down step by step.
func TestSyncByHand(t *testing.T) {
	f := tree(dir(entry("a", 3), entry("bc", 1)), dir(entry("d", 3)), kind(0), file(2, 11, 14, 2), kind(0))
	wantCode(t, "by hand", impl.FsFault(f), impl.OK)
	d := formatted(t, 5)
	first := impl.PlanSync(d, f)
	wantSteps(t, "PlanSync", first, steps(
		stepOf(29, 120, 121, 122), stepOf(41, 112, 113, 114, 115, 116, 117, 118, 119),
		flushStep(),
		stepOf(1, 1, 5, 5, 17, 18, 19, 20, 21),
		stepOf(2, 2, 0, 0, 2, 3, 1, 97, 1, 2, 98, 99), stepOf(3, 2, 0, 0, 1, 3, 1, 100), stepOf(4, 0, 0, 0), stepOf(5, 1, 2, 11, 14, 2), stepOf(6, 0, 0, 0),
		flushStep(),
		stepOf(7, 2, 5, 5),
		flushStep(),
		stepOf(17, 2, 0, 0, 2, 3, 1, 97, 1, 2, 98, 99), stepOf(18, 2, 0, 0, 1, 3, 1, 100), stepOf(19, 0, 0, 0), stepOf(20, 1, 2, 11, 14, 2), stepOf(21, 0, 0, 0),
		flushStep(),
		stepOf(0, 7, 6),
		flushStep()))
	wantNumber(t, "CommitAt", impl.CommitAt(first.Steps), 11)
	d = run(t, "the first sync", d, first.Steps)
	wantFs(t, "LoadImage", impl.LoadImage(d), f)
	wantNumber(t, "SeqOf", impl.SeqOf(d), 6)
	wantNoTx(t, "behind it", impl.ScanJournal(d), impl.OK)
	wantSteps(t, "again", impl.PlanSync(d, f), nil)

	g := tree(dir(entry("a", 2)), kind(0), file(1, 3, 7))
	second := impl.PlanSync(d, g)
	wantSteps(t, "PlanSync of fewer", second, steps(
		stepOf(34, 107, 108, 109),
		flushStep(),
		stepOf(1, 1, 6, 5, 17, 18, 19, 20, 21),
		stepOf(2, 2, 0, 0, 1, 2, 1, 97), stepOf(3, 0, 0, 0), stepOf(4, 1, 1, 3, 7), stepOf(5), stepOf(6),
		flushStep(),
		stepOf(7, 2, 6, 5),
		flushStep(),
		stepOf(17, 2, 0, 0, 1, 2, 1, 97), stepOf(18, 0, 0, 0), stepOf(19, 1, 1, 3, 7), stepOf(20), stepOf(21),
		flushStep(),
		stepOf(0, 7, 7),
		flushStep()))
	wantNumber(t, "CommitAt of fewer", impl.CommitAt(second.Steps), 10)

	// Up to the commit's flush, and not beyond it.
	cut := run(t, "up to the commit", d, second.Steps[:11])
	wantFs(t, "the inodes stand as they were", impl.LoadImage(cut), f)
	wantTx(t, "the journal", impl.ScanJournal(cut), puts(putOf(17, 2, 0, 0, 1, 2, 1, 97), putOf(18, 0, 0, 0), putOf(19, 1, 1, 3, 7), putOf(20), putOf(21)))
	wantSteps(t, "PlanMount", impl.PlanMount(cut), steps(
		stepOf(17, 2, 0, 0, 1, 2, 1, 97), stepOf(18, 0, 0, 0), stepOf(19, 1, 1, 3, 7), stepOf(20), stepOf(21), flushStep(), stepOf(0, 7, 7), flushStep()))
	mounted := run(t, "the mount", cut, impl.PlanMount(cut).Steps)
	wantFs(t, "behind the mount", impl.LoadImage(mounted), g)
	wantNumber(t, "behind the mount", impl.SeqOf(mounted), 7)
	wantSteps(t, "mounted again", impl.PlanMount(mounted), nil)
	wantDisk(t, "mounted as synced", mounted, run(t, "the second sync", d, second.Steps))

	wantNoTx(t, "ahead of the commit", impl.ScanJournal(run(t, "cut", d, second.Steps[:9])), impl.OK)
	wantSteps(t, "ahead of the commit", impl.PlanMount(run(t, "cut", d, second.Steps[:9])), nil)
	wantNoTx(t, "a new disk", impl.ScanJournal(formatted(t, 5)), impl.OK)
	wantSteps(t, "a new disk", impl.PlanMount(formatted(t, 5)), nil)
	wantSteps(t, "nothing on a new disk", impl.PlanSync(formatted(t, 5), impl.NewFs(nil).Fs), nil)
}

// A put that stands on the disk already is no step, be it of inodes or of data.
func TestSyncTakesWhatIsChangedAlone(t *testing.T) {
	f := tree(dir(entry("a", 1), entry("b", 2)), file(1, 9, 3, 4), dir())
	g := tree(dir(entry("a", 1), entry("b", 2)), file(1, 9, 3, 4), dir(entry("c", 4)), kind(0), file(1, 9, 0, 19))
	d := imageDisk(8, f)
	d.Blocks[46], d.Blocks[40] = wordsIn(g.Data[19]), list(1, 2, 3)
	wantSteps(t, "one of two blocks, two inodes and a free one", impl.PlanSync(d, g), steps(
		stepOf(27, wordsIn(g.Data[0])...), flushStep(),
		stepOf(1, 1, 8, 3, 19, 20, 21), stepOf(2, 2, 0, 0, 1, 4, 1, 99), stepOf(3, 0, 0, 0), stepOf(4, 1, 1, 9, 0, 19), flushStep(),
		stepOf(5, 2, 8, 3), flushStep(),
		stepOf(19, 2, 0, 0, 1, 4, 1, 99), stepOf(20, 0, 0, 0), stepOf(21, 1, 1, 9, 0, 19), flushStep(),
		stepOf(0, 7, 9), flushStep()))

	// What stands in Cache alone is on the disk as well.
	d = put(t, put(t, d, 20, 0, 0, 0), 27, wordsIn(g.Data[0])...)
	wantSteps(t, "in Cache", impl.PlanSync(d, g), steps(
		flushStep(),
		stepOf(1, 1, 8, 2, 19, 21), stepOf(2, 2, 0, 0, 1, 4, 1, 99), stepOf(3, 1, 1, 9, 0, 19), flushStep(),
		stepOf(4, 2, 8, 2), flushStep(),
		stepOf(19, 2, 0, 0, 1, 4, 1, 99), stepOf(21, 1, 1, 9, 0, 19), flushStep(),
		stepOf(0, 7, 9), flushStep()))
}

// Inodes turn, and no block of data does: by names, by links and by directories.
func TestSyncOfInodesAlone(t *testing.T) {
	f := tree(dir(entry("a", 1), entry("b", 2)), file(1, 9, 3, 4), dir())
	for what, c := range map[string]struct {
		fs     impl.Fs
		places []int64
	}{
		"a name":                    {tree(dir(entry("a", 1), entry("c", 2)), file(1, 9, 3, 4), dir()), list(17)},
		"a link":                    {tree(dir(entry("a", 1), entry("b", 2), entry("c", 1)), file(2, 9, 3, 4), dir()), list(17, 18)},
		"a directory":               {tree(dir(entry("a", 1), entry("b", 2)), file(1, 9, 3, 4), dir(entry("c", 3)), dir()), list(19, 20)},
		"a file of no bytes":        {tree(dir(entry("a", 1), entry("b", 2)), file(1, 9, 3, 4), dir(entry("c", 9)), kind(0), kind(0), kind(0), kind(0), kind(0), kind(0), file(1, 0)), list(19, 20, 21, 22, 23, 24, 25, 26)},
		"a directory less":          {tree(dir(entry("a", 1)), file(1, 9, 3, 4)), list(17, 19)},
		"a free one where it stood": {tree(dir(entry("a", 1)), file(1, 9, 3, 4), kind(0)), list(17, 19)},
		"a free one more":           {tree(dir(entry("a", 1), entry("b", 2)), file(1, 9, 3, 4), dir(), kind(0)), list(20)},
		"a file less":               {tree(dir(entry("b", 2)), kind(0), dir()), list(17, 18)},
		"moved":                     {tree(dir(entry("b", 2)), file(1, 9, 3, 4), dir(entry("x", 1))), list(17, 19)},
	} {
		wantCode(t, what, impl.FsFault(c.fs), impl.OK)
		d := imageDisk(5, f)
		if what == "a file less" {
			// Nobody has this block then.
			d.Blocks[30] = list(1)
		}
		n := int64(len(c.places))
		got := impl.PlanSync(d, c.fs).Steps
		want := steps(flushStep(), stepOf(1, append(list(1, 5, n), c.places...)...))
		for i, at := range c.places {
			want = append(want, stepOf(2+int64(i), imageDisk(5, c.fs).Blocks[at]...))
		}
		want = append(want, flushStep(), stepOf(2+n, 2, 5, n), flushStep())
		for _, at := range c.places {
			want = append(want, stepOf(at, imageDisk(5, c.fs).Blocks[at]...))
		}
		want = append(want, flushStep(), stepOf(0, 7, 6), flushStep())
		wantSteps(t, what, impl.StepsResult{Steps: got}, want)
		wantNumber(t, what, impl.CommitAt(got), 4+n)
		wantFs(t, what, impl.LoadImage(run(t, what, d, got)), c.fs)
	}
}

// tenInodes have places of each kind, and all twenty blocks.
func tenInodes() impl.Fs {
	return tree(dir(entry("a", 1), entry("b", 2), entry("c", 3), entry("d", 9)), file(1, 32, 0, 1, 2, 3), file(1, 32, 4, 5, 6, 7), dir(entry("a", 4), entry("b", 6), entry("c", 7), entry("d", 8)),
		dir(entry("a", 5)), file(1, 32, 8, 9, 10, 11), file(1, 32, 12, 13, 14, 15), file(1, 25, 16, 17, 18, 19), dir(), file(1, 0))
}

// All ten inodes turn: the longest journal there is, and the longest sync.
func TestSyncOfAllInodes(t *testing.T) {
	f := tenInodes()
	wantCode(t, "ten inodes", impl.FsFault(f), impl.OK)
	d := formatted(t, 59999)
	p := impl.PlanSync(d, f).Steps
	if len(p) != 48 {
		t.Fatalf("%d steps, not 48", len(p))
	}
	for i := range int64(20) {
		if !same(p[i], stepOf(27+i, wordsIn(f.Data[i])...)) {
			t.Errorf("step %d is %v", i, p[i])
		}
	}
	for _, place := range list(20, 32, 34, 45, 47) {
		if !same(p[place], flushStep()) {
			t.Errorf("step %d is %v", place, p[place])
		}
	}
	if !same(p[21], stepOf(1, 1, 59999, 10, 17, 18, 19, 20, 21, 22, 23, 24, 25, 26)) || !same(p[33], stepOf(12, 2, 59999, 10)) || !same(p[46], stepOf(0, 7, 60000)) {
		t.Errorf("%v, %v, %v", p[21], p[33], p[46])
	}
	for i := range int64(10) {
		words := modelWords(f.Inodes[i])
		if !same(p[22+i], stepOf(2+i, words...)) || !same(p[35+i], stepOf(17+i, words...)) {
			t.Errorf("inode %d: %v, %v", i, p[22+i], p[35+i])
		}
	}
	wantNumber(t, "ten inodes", impl.CommitAt(p), 34)
	d = run(t, "ten inodes", d, p)
	wantFs(t, "ten inodes", impl.LoadImage(d), f)
	wantNumber(t, "ten inodes", impl.SeqOf(d), 60000)

	d.Blocks[0] = list(7, 1)
	back := impl.PlanSync(d, tree(dir())).Steps
	want := steps(flushStep(), stepOf(1, 1, 1, 10, 17, 18, 19, 20, 21, 22, 23, 24, 25, 26), stepOf(2, 2, 0, 0, 0))
	for row := int64(3); row < 12; row++ {
		want = append(want, stepOf(row))
	}
	want = append(want, flushStep(), stepOf(12, 2, 1, 10), flushStep(), stepOf(17, 2, 0, 0, 0))
	for at := int64(18); at < 27; at++ {
		want = append(want, stepOf(at))
	}
	wantSteps(t, "the top alone", impl.StepsResult{Steps: back}, append(want, flushStep(), stepOf(0, 7, 2), flushStep()))
	wantFs(t, "the top alone", impl.LoadImage(run(t, "the top alone", d, back)), tree(dir()))
}

// A sync of nothing has no steps, whatever stands in blocks that no file has,
// and in the journal; nor has one of bytes alone, since no inode turns with
// them.
func TestSyncOfNothing(t *testing.T) {
	for i, c := range imageTrees() {
		d := imageDisk(5, c.fs)
		wantSteps(t, c.what, impl.PlanSync(d, c.fs), nil)
		used, _ := modelUsed(c.fs.Inodes)
		for _, block := range without(used...) {
			d.Blocks[27+block] = list(1, 2, 300)
		}
		for at := 1; at < 17; at++ {
			d.Blocks[at] = fill(i%64, 7)
		}
		wantSteps(t, c.what+", spoilt", impl.PlanSync(d, c.fs), nil)
		wantSteps(t, c.what+", the same in Cache", impl.PlanSync(putAll(t, d, modelInodePuts(c.fs), false), c.fs), nil)
		blank := impl.Disk{Blocks: emptyBlocks(47)}
		blank.Blocks[0] = list(7, 5)
		wantSteps(t, c.what+", in Cache alone", impl.PlanSync(putAll(t, blank, modelInodePuts(c.fs), false), c.fs), nil)
		for _, block := range used {
			d.Blocks[27+block] = append(wordsIn(c.fs.Data[block]), 9)
		}
		wantSteps(t, c.what+", longer blocks", impl.PlanSync(d, c.fs), nil)
		wantDisk(t, c.what+", done", run(t, c.what, d, impl.PlanSync(d, c.fs).Steps), d)
	}
}

// Steps of all kinds, done by hand.
func TestStepsByHand(t *testing.T) {
	d := formatted(t, 5)
	blocks := func(turn map[int][]int64) [][]int64 {
		next := slices.Clone(formatted(t, 5).Blocks)
		for at, words := range turn {
			next[at] = words
		}
		return next
	}
	for _, c := range []struct {
		what  string
		steps []impl.Step
		want  impl.Disk
	}{
		{"nil", nil, d},
		{"none", steps(), d},
		{"a flush", steps(flushStep()), d},
		{"flushes", steps(flushStep(), flushStep(), flushStep()), d},
		{"a flush of an empty list", steps(impl.Step{Flush: true, Words: []int64{}}), d},
		{"a put", steps(stepOf(3, 1, 2)), impl.Disk{Blocks: d.Blocks, Cache: puts(putOf(3, 1, 2))}},
		{"a put of no words", steps(stepOf(17)), impl.Disk{Blocks: d.Blocks, Cache: puts(putOf(17))}},
		{"a put, flushed", steps(stepOf(3, 1, 2), flushStep()), impl.Disk{Blocks: blocks(map[int][]int64{3: {1, 2}})}},
		{"no words, flushed", steps(stepOf(17), flushStep()), impl.Disk{Blocks: blocks(map[int][]int64{17: nil})}},
		{"a flush, then a put", steps(flushStep(), stepOf(3, 1, 2)), impl.Disk{Blocks: d.Blocks, Cache: puts(putOf(3, 1, 2))}},
		{"the same block twice", steps(stepOf(3, 1), stepOf(3, 2)), impl.Disk{Blocks: d.Blocks, Cache: puts(putOf(3, 1), putOf(3, 2))}},
		{"the same block twice, flushed", steps(stepOf(3, 1), stepOf(3, 2), flushStep()), impl.Disk{Blocks: blocks(map[int][]int64{3: {2}})}},
		{"the same block, a flush between", steps(stepOf(3, 1), flushStep(), stepOf(3, 2)), impl.Disk{Blocks: blocks(map[int][]int64{3: {1}}), Cache: puts(putOf(3, 2))}},
		{"the same block, longer ahead", steps(stepOf(3, 1, 2, 3), flushStep(), stepOf(3, 2), flushStep()), impl.Disk{Blocks: blocks(map[int][]int64{3: {2}})}},
		{"the first and the last block", steps(stepOf(0, 9), stepOf(46, 8), flushStep()), impl.Disk{Blocks: blocks(map[int][]int64{0: {9}, 46: {8}})}},
		{"MaxWords words", steps(impl.Step{At: 1, Words: fill(64, 65535)}, flushStep()), impl.Disk{Blocks: blocks(map[int][]int64{1: fill(64, 65535)})}},
		{"a put behind a flush of two", steps(stepOf(1, 1), stepOf(2, 2), flushStep(), stepOf(1, 3)), impl.Disk{Blocks: blocks(map[int][]int64{1: {1}, 2: {2}}), Cache: puts(putOf(1, 3))}},
	} {
		wantDisk(t, c.what, run(t, c.what, d, c.steps), c.want)
		if !same(modelRun(d, c.steps), impl.DiskResult{Disk: c.want}) {
			t.Errorf("%s: the model has %v", c.what, modelRun(d, c.steps))
		}
	}

	// What stood in Cache comes ahead of what is put.
	cached := put(t, put(t, d, 3, 9), 4, 8)
	wantDisk(t, "behind Cache", run(t, "cached", cached, steps(stepOf(3, 1))), impl.Disk{Blocks: d.Blocks, Cache: puts(putOf(3, 9), putOf(4, 8), putOf(3, 1))})
	wantDisk(t, "behind Cache, flushed", run(t, "cached", cached, steps(stepOf(3, 1), flushStep())), impl.Disk{Blocks: blocks(map[int][]int64{3: {1}, 4: {8}})})
	wantDisk(t, "Cache flushed first", run(t, "cached", cached, steps(flushStep(), stepOf(3, 1))), impl.Disk{Blocks: blocks(map[int][]int64{3: {9}, 4: {8}}), Cache: puts(putOf(3, 1))})
	wantDisk(t, "Cache stays", run(t, "cached", cached, nil), cached)
	// RunSteps asks for a number as little as for inodes.
	spoilt := impl.Disk{Blocks: fullBlocks(47)}
	wantDisk(t, "no file system", run(t, "spoilt", spoilt, steps(stepOf(46), flushStep())), impl.Disk{Blocks: append(fullBlocks(46), nil)})
}

// Where the commit stands: the first that is one, and the flush behind it.
func TestCommitsByHand(t *testing.T) {
	commit, flush := stepOf(4, 2, 5, 2), flushStep()
	for _, c := range []struct {
		what  string
		steps []impl.Step
		want  int64
	}{
		{"alone", steps(commit), 1},
		{"a flush right behind", steps(commit, flush), 1},
		{"a flush later", steps(commit, stepOf(17, 0, 0, 0), flush), 2},
		{"a flush far behind", steps(commit, stepOf(17), stepOf(18), stepOf(0, 7, 6), stepOf(3, 2, 5), flush, flush), 5},
		{"no flush behind", steps(commit, stepOf(17), stepOf(18)), 3},
		{"a flush ahead alone", steps(flush, commit), 2},
		{"a flush ahead and one behind", steps(flush, stepOf(1, 1, 5, 0), flush, commit, flush, stepOf(17), flush), 4},
		{"two of them, a flush between", steps(commit, flush, stepOf(5, 2, 5, 3), flush), 1},
		{"two of them, no flush between", steps(commit, stepOf(5, 2, 5, 3), flush), 2},
		{"two of them, no flush", steps(commit, commit), 2},
		{"two of them, a flush ahead of both", steps(flush, commit, commit, flush), 3},
		{"the first block of the journal", steps(stepOf(1, 2, 0, 0), flush), 1},
		{"the last block of the journal", steps(stepOf(16, 2, 0, 0), flush), 1},
		{"any numbers", steps(stepOf(9, 2, 65535, 65535), flush), 1},
		{"one elsewhere ahead", steps(stepOf(17, 2, 0, 0), flush, commit, flush), 3},
		{"one that is none ahead", steps(stepOf(4, 1, 5, 2), flush, stepOf(4, 2, 5), flush, commit, flush), 5},
	} {
		wantNumber(t, c.what, impl.CommitAt(c.steps), c.want)
		if r := modelCommit(c.steps); r != (impl.IntResult{Value: c.want}) {
			t.Errorf("%s: the model has %v", c.what, r)
		}
	}
	for what, all := range map[string][]impl.Step{
		"nil":                       nil,
		"none":                      steps(),
		"a flush":                   steps(flush),
		"two words":                 steps(stepOf(4, 2, 5), flush),
		"four words":                steps(stepOf(4, 2, 5, 2, 0), flush),
		"one word":                  steps(stepOf(4, 2), flush),
		"no words":                  steps(stepOf(4), flush),
		"three that begin with 1":   steps(stepOf(4, 1, 5, 2), flush),
		"three that begin with 3":   steps(stepOf(4, 3, 2, 2), flush),
		"three that begin with 0":   steps(stepOf(4, 0, 2, 2), flush),
		"a 2 that is not the first": steps(stepOf(4, 5, 2, 2), flush),
		"at the first block":        steps(stepOf(0, 2, 5, 2), flush),
		"behind the journal":        steps(stepOf(17, 2, 5, 2), flush),
		"at the last inode":         steps(stepOf(26, 2, 5, 2), flush),
		"at the first data":         steps(stepOf(27, 2, 5, 2), flush),
		"at the last block":         steps(stepOf(46, 2, 5, 2), flush),
	} {
		wantNoNumber(t, what, impl.CommitAt(all), impl.ErrNone)
		wantNoNumber(t, what+", by the model", modelCommit(all), impl.ErrNone)
	}
	for at := range int64(47) {
		r := impl.CommitAt(steps(flush, stepOf(at, 2, 5, 2), stepOf(30), flush))
		if at >= 1 && at <= 16 {
			wantNumber(t, fmt.Sprint("at ", at), r, 3)
		} else {
			wantNoNumber(t, fmt.Sprint("at ", at), r, impl.ErrNone)
		}
	}
}
