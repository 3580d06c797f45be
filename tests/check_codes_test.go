package tests

import (
	"fmt"
	"math"
	"testing"

	"loop.example/g00295/impl"
)

// wantNoLook asks both functions that look a file system over for its code.
func wantNoLook(t *testing.T, what string, f impl.Fs, code int64) {
	t.Helper()
	wantNoWords(t, what+": FindingsOf", impl.FindingsOf(f), code)
	wantNoFs(t, what+": RepairFs", impl.RepairFs(f), code)
}

// wantNoRoom asks both functions that want a whole one for its fault, whatever
// else they are told.
func wantNoRoom(t *testing.T, what string, f impl.Fs, code int64) {
	t.Helper()
	for _, busy := range [][]int64{nil, list(3), list(-1), list(20), fill(21, 0), fill(21, 20)} {
		wantNoNumber(t, fmt.Sprint(what, ": RoomOf, busy ", busy), impl.RoomOf(f, busy), code)
	}
	for _, at := range list(math.MinInt64, -1, 0, 1, 3, 19, 20, math.MaxInt64) {
		wantNoText(t, fmt.Sprint(what, ": HeldBy ", at), impl.HeldBy(f, at), code)
	}
}

// dataOfSeveral are Data that are right in number or not, with what is found
// alone in them.
func dataOfSeveral() [][][]byte {
	long := make([]byte, 9)
	return [][][]byte{make([][]byte, 20), nil, {}, {long}, append(make([][]byte, 19), long), emptyData(19), emptyData(21), append(emptyData(20), long)}
}

func TestHowManyInodesAreLookedOver(t *testing.T) {
	for n := range 10 {
		f := tree(append(inodes(dir()), alike(n, kind(0))...)...)
		wantLook(t, fmt.Sprint(n, " free ones"), f, list(0, 0, 0, 0, 0), f)
	}
	for _, n := range []int{10, 11, 70000} {
		for _, top := range inodes(dir(), file(1, 0), kind(0), kind(3), dir(entry("A", 1)), dir(entry("a", 0))) {
			for _, data := range dataOfSeveral() {
				f := impl.Fs{Inodes: append(inodes(top), alike(n, kind(0))...), Data: data}
				wantNoLook(t, fmt.Sprint(n, " free ones behind ", top), f, impl.ErrMany)
			}
		}
		wantNoLook(t, fmt.Sprint(n, " wrong ones"), tree(append(inodes(dir()), alike(n, kind(3))...)...), impl.ErrMany)
	}
}

// An inode with each fault stands alone, behind the top and what else may be
// there, and at the last place; what is wrong with Data comes behind it.
func TestInodeFaultsAheadOfLooks(t *testing.T) {
	for _, c := range allInodeCases() {
		if c.code == impl.OK {
			continue
		}
		for _, all := range [][]impl.Inode{
			inodes(c.inode),
			inodes(dir(), c.inode),
			inodes(dir(entry("a", 9), entry("b", 0)), c.inode),
			inodes(file(1, 0), c.inode),
			inodes(kind(0), c.inode),
			append(append(inodes(dir()), alike(8, kind(0))...), c.inode),
		} {
			for _, data := range dataOfSeveral() {
				wantNoLook(t, fmt.Sprint(c.what, ", the last of ", len(all)), impl.Fs{Inodes: all, Data: data}, c.code)
			}
		}
	}
	form, out, text, taken := kind(3), file(0, 0), dir(entry("A", 1)), file(1, 9, 3, 3)
	wantNoLook(t, "inode by inode: form", tree(dir(), form, out, text), impl.ErrForm)
	wantNoLook(t, "inode by inode: range", tree(dir(), out, text, form), impl.ErrRange)
	wantNoLook(t, "inode by inode: text", tree(dir(), text, form, out), impl.ErrText)
	wantNoLook(t, "inode by inode: a block twice of one file", impl.Fs{Inodes: inodes(dir(), taken, out), Data: make([][]byte, 20)}, impl.ErrTaken)
	wantNoLook(t, "an entry of MaxInodes", tree(dir(entry("a", 10))), impl.ErrRange)
	wantNoLook(t, "an entry of -1", tree(dir(entry("a", -1))), impl.ErrRange)
	wantNoLook(t, "entries that fall", tree(dir(entry("b", 1), entry("a", 1)), dir()), impl.ErrForm)
}

func TestTopOfWhatIsLookedOver(t *testing.T) {
	for _, data := range dataOfSeveral() {
		for what, all := range map[string][]impl.Inode{
			"nil":                      nil,
			"none":                     inodes(),
			"a file":                   inodes(file(1, 0)),
			"a file with bytes":        inodes(file(1, 9, 3, 4)),
			"a free one":               inodes(kind(0)),
			"free ones alone":          alike(10, kind(0)),
			"a file, then a directory": inodes(file(1, 0), dir(entry("a", 0))),
			"a free one, and a ring":   inodes(kind(0), dir(entry("a", 2)), dir(entry("a", 1))),
		} {
			wantNoLook(t, fmt.Sprint(what, ", ", len(data), " Data"), impl.Fs{Inodes: all, Data: data}, impl.ErrForm)
		}
	}
}

func TestHowManyDataAreLookedOver(t *testing.T) {
	for _, c := range allLookCases() {
		for _, n := range []int{0, 1, 19, 21, 22, 40, 3000} {
			f := c.fs
			f.Data = append(append([][]byte(nil), c.fs.Data...), make([][]byte, 3000)...)[:n]
			wantNoLook(t, fmt.Sprint(c.what, ", ", n, " blocks"), f, impl.ErrForm)
		}
		if len(c.fs.Data) != 20 {
			t.Errorf("%s: %d Data", c.what, len(c.fs.Data))
		}
	}
	wantNoLook(t, "nothing", impl.Fs{}, impl.ErrForm)
	wantNoLook(t, "one more with bytes", impl.Fs{Inodes: inodes(dir()), Data: append(make([][]byte, 20), []byte("x"))}, impl.ErrForm)
}

// looked is what is found of turnedTree when one thing is turned that has no
// code here, by hand; of the turns before these there is one.
func looked() [][]int64 {
	return [][]int64{list(0, 0, 0, 0, 1), list(0, 0, 1, 0, 1), list(1, 1, 0, 0, 1), list(0, 1, 0, 0, 0), list(0, 0, 0, 0, 1)}
}

// Each set of what may be wrong: the first that has a code here tells it, and
// all else is found and repaired.
func TestWhichFaultOfLooksComesFirst(t *testing.T) {
	const coded = 5
	for set := range 1 << len(turns()) {
		f := turnedTree()
		code := int64(impl.OK)
		found := list(0, 0, 0, 0, 0)
		for i, c := range turns() {
			if set>>i&1 == 0 {
				continue
			}
			c.do(&f)
			if i < coded {
				code = firstCode(code, c.code)
				continue
			}
			for number, count := range looked()[i-coded] {
				found[number] += count
			}
		}
		what := fmt.Sprintf("turns %b", set)
		if code != impl.OK {
			wantNoLook(t, what, f, code)
			continue
		}
		// The entry of a free one was that of the file that has a block of
		// another: that is not met then, and the bytes of its own are counted once.
		if set>>6&1 == 1 && set>>7&1 == 1 {
			found[2], found[4] = found[2]-1, found[4]-1
		}
		wantWords(t, what, impl.FindingsOf(f), found)
		checkLook(t, what, f)
	}
}

func TestFaultsAheadOfRoom(t *testing.T) {
	for _, c := range append(turnedTrees(), faultyTrees()...) {
		if c.code != impl.OK {
			wantNoRoom(t, c.what, c.fs, c.code)
			continue
		}
		checkHeld(t, c.what, c.fs, nil)
		for _, b := range wrongBusy() {
			want := impl.IntResult{Code: b.code}
			if b.code == impl.OK {
				want.Value = modelRoom(c.fs, b.busy)
			}
			if r := impl.RoomOf(c.fs, b.busy); r != want {
				t.Errorf("%s, busy: %s: RoomOf %v, not %v", c.what, b.what, r, want)
			}
		}
	}
	// What can be looked over need not be whole, and then has no room.
	for _, c := range allLookCases() {
		if code := modelFault(c.fs); code != impl.OK {
			wantNoRoom(t, c.what, c.fs, code)
		}
	}
}

func TestBusyBlocksOfRoom(t *testing.T) {
	f := turnedTree()
	for _, n := range list(0, 1, 19, 20) {
		for _, at := range list(0, 5, 19) {
			busy := fill(int(n), at)
			wantNumber(t, fmt.Sprint(n, " times ", at), impl.RoomOf(f, busy), modelRoom(f, busy))
		}
	}
	for _, n := range []int{21, 22, 70000} {
		for _, at := range list(-1, 0, 19, 20) {
			wantNoNumber(t, fmt.Sprint(n, " times ", at), impl.RoomOf(f, fill(n, at)), impl.ErrMany)
		}
	}
	for _, at := range list(math.MinInt64, -1<<32, -1, 20, 21, 1<<32, 1<<32+1, math.MaxInt64) {
		for _, busy := range [][]int64{list(at), list(at, 0), list(0, 19, at), append(fill(19, 7), at)} {
			wantNoNumber(t, fmt.Sprint("busy ", busy), impl.RoomOf(f, busy), impl.ErrRange)
		}
	}
}

// Of HeldBy all pairs of what is wrong.
func TestCodesOfHeldBy(t *testing.T) {
	deep := ladder("a", file(1, 9, 3, 7))
	broken := ladder("a", file(2, 9, 3, 7))
	for _, at := range append(upTo(23), math.MinInt64, -1<<32, -20, -2, -1, 1<<32, 1<<32+3, math.MaxInt64) {
		what := fmt.Sprint("HeldBy ", at)
		wantNoText(t, what+" of a broken one", impl.HeldBy(broken, at), impl.ErrForm)
		out := codeIf(at < 0 || at > 19, impl.ErrRange)
		// That of PathOf is ErrNone as well.
		wantNoText(t, what+" of a deep one", impl.HeldBy(deep, at), firstCode(out, impl.ErrNone))
		wantNoText(t, what+" of the top alone", impl.HeldBy(tree(dir()), at), firstCode(out, impl.ErrNone))
		all := tree(append(inodes(dir(sixEntries()[:5]...)), oneLink(fiveFiles())...)...)
		if r := impl.HeldBy(all, at); r.Code != out || (r.Text == "") != (out != impl.OK) {
			t.Errorf("%s of five files with all blocks: %v, not code %d", what, r, out)
		}
	}
}

// Disks that are none for a file system, or on which nothing whole stands.
func TestCodesOfCheckDisk(t *testing.T) {
	for _, c := range allDisks() {
		wantNoWords(t, c.what, impl.CheckDisk(c.disk), firstCode(c.code, impl.ErrForm))
	}
	for n := range 70 {
		d := impl.Disk{Blocks: emptyBlocks(n)}
		if n > 0 {
			d.Blocks[0] = list(7, 5)
		}
		if n > 17 {
			d.Blocks[17] = list(2, 0, 0, 0)
		}
		wantCode(t, fmt.Sprint(n, " blocks"), impl.CheckDisk(d).Code, firstCode(codeIf(n > 60, impl.ErrMany), codeIf(n != 47, impl.ErrForm)))
	}
	for _, c := range superCases() {
		d := formatted(t, 5)
		d.Blocks[0] = c.words
		wantCode(t, fmt.Sprint(c.words), impl.CheckDisk(d).Code, c.code)
	}
	for _, c := range append(turnedTrees(), faultyTrees()...) {
		if len(c.fs.Inodes) > 10 || modelLookCode(c.fs) != impl.OK {
			continue
		}
		checkDisk(t, c.what, imageDisk(5, c.fs))
		checkDisk(t, c.what+", in the journal", withJournal(formatted(t, 5), journalRows(5, modelInodePuts(c.fs)...)...))
	}
	wantNoWords(t, "nothing", impl.CheckDisk(impl.Disk{}), impl.ErrForm)
	wantNoWords(t, "a spoilt one", impl.CheckDisk(spoiltDisk(5)), impl.ErrText)
}

// Each set of what may be wrong with a disk: the first tells the code.
func TestWhichCodeOfCheckDiskComesFirst(t *testing.T) {
	for set := range 1 << len(diskTurns()) {
		d := imageDisk(5, turnedTree())
		code := int64(impl.OK)
		for i, turn := range diskTurns() {
			if set>>i&1 == 1 {
				turn.do(&d)
				code = firstCode(code, turn.code)
			}
		}
		r := impl.CheckDisk(d)
		wantCode(t, fmt.Sprintf("turns %b", set), r.Code, code)
		if code != impl.OK {
			wantNoWords(t, fmt.Sprintf("turns %b", set), r, code)
		}
	}
}
