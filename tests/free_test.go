package tests

import (
	"fmt"
	"testing"

	"loop.example/g00295/impl"
)

// The names and signatures of chapter 5, as the document has them.
var (
	_ func([]impl.Inode) impl.IntsResult                 = impl.UsedBlocks
	_ func([]impl.Inode, []int64) impl.IntsResult        = impl.FreeBlocks
	_ func([]impl.Inode, []int64, int64) impl.IntsResult = impl.PickBlocks
	_ func([]impl.Inode) impl.IntResult                  = impl.FreeInode
	_ func([]impl.Inode, int64) impl.IntResult           = impl.LinksOf
)

func inodes(list ...impl.Inode) []impl.Inode {
	return list
}

// alike is n times the same inode, each with lists of its own.
func alike(n int, x impl.Inode) []impl.Inode {
	var list []impl.Inode
	for range n {
		list = append(list, impl.Inode{Kind: x.Kind, Links: x.Links, Size: x.Size,
			Blocks: append([]int64(nil), x.Blocks...), Entries: append([]impl.Entry(nil), x.Entries...)})
	}
	return list
}

// upTo is the numbers from 0 on, below n.
func upTo(n int64) []int64 {
	var list []int64
	for at := range n {
		list = append(list, at)
	}
	return list
}

// without is the blocks of all that are not among these.
func without(blocks ...int64) []int64 {
	var list []int64
	for at := range int64(20) {
		if !among(blocks, at) {
			list = append(list, at)
		}
	}
	return list
}

func among(blocks []int64, at int64) bool {
	for _, b := range blocks {
		if b == at {
			return true
		}
	}
	return false
}

// fiveFiles have all blocks, in no order.
func fiveFiles() []impl.Inode {
	return inodes(file(1, 32, 19, 0, 7, 11), file(2, 25, 1, 2, 3, 4), file(1, 31, 18, 17, 16, 15), file(60, 32, 5, 9, 6, 8), file(1, 26, 10, 14, 12, 13))
}

type listCase struct {
	what string
	list []impl.Inode
	used []int64
}

// soundLists are inodes without a fault, no block of which is of two files,
// and their blocks, written by hand.
func soundLists() []listCase {
	return []listCase{
		{"nil", nil, nil},
		{"none", inodes(), nil},
		{"one that is free", inodes(kind(0)), nil},
		{"free ones alone", alike(4, kind(0)), nil},
		{"MaxInodes free ones", alike(10, kind(0)), nil},
		{"an empty file", inodes(file(1, 0)), nil},
		{"MaxInodes empty files", alike(10, file(3, 0)), nil},
		{"a directory", inodes(dir()), nil},
		{"a directory with entries", inodes(dir(sixEntries()...)), nil},
		{"MaxInodes directories", alike(10, dir(entry("a", 4), entry("b", 19-10))), nil},
		{"a file in block 0", inodes(file(1, 1, 0)), list(0)},
		{"a file in block 19", inodes(file(1, 8, 19)), list(19)},
		{"a file whose blocks fall", inodes(file(1, 32, 19, 12, 5, 0)), list(0, 5, 12, 19)},
		{"a file whose blocks rise", inodes(file(1, 25, 1, 2, 4, 8)), list(1, 2, 4, 8)},
		{"a directory and a file", inodes(dir(entry("a", 1)), file(1, 9, 0, 2)), list(0, 2)},
		{"a file ahead of its directory", inodes(file(1, 9, 3, 1), dir(entry("a", 0))), list(1, 3)},
		{"two files by turns", inodes(file(1, 17, 6, 2, 4), file(1, 24, 1, 5, 3)), list(1, 2, 3, 4, 5, 6)},
		{"files, and free ones between", inodes(kind(0), file(1, 8, 9), kind(0), file(1, 8, 3), kind(0)), list(3, 9)},
		{"all kinds", inodes(dir(entry("a", 1), entry("b", 2)), file(1, 32, 8, 6, 4, 2), file(1, 0), kind(0), dir(), file(1, 1, 3)), list(2, 3, 4, 6, 8)},
		{"MaxInodes of all kinds", append(fiveFiles()[:4], append(alike(3, kind(0)), alike(3, dir())...)...), without(10, 12, 13, 14)},
		{"MaxInodes files of two blocks", tenFiles(), upTo(20)},
		{"all blocks of five files", fiveFiles(), upTo(20)},
		{"all blocks but one", append(fiveFiles()[:4], file(1, 24, 13, 10, 12)), without(14)},
		{"all blocks but two", append(fiveFiles()[:4], file(1, 16, 14, 10)), without(12, 13)},
		{"all blocks but the first", inodes(file(1, 32, 1, 2, 3, 4), file(1, 32, 5, 6, 7, 8), file(1, 32, 9, 10, 11, 12), file(1, 32, 13, 14, 15, 16), file(1, 24, 17, 18, 19)), without(0)},
		{"all blocks but the last", inodes(file(1, 32, 1, 2, 3, 4), file(1, 32, 5, 6, 7, 8), file(1, 32, 9, 10, 11, 12), file(1, 32, 13, 14, 15, 16), file(1, 24, 17, 18, 0)), without(19)},
	}
}

func tenFiles() []impl.Inode {
	var list []impl.Inode
	for i := range int64(10) {
		list = append(list, file(1, 16, 19-i, i))
	}
	return list
}

type busyCase struct {
	what string
	busy []int64
}

func soundBusy() []busyCase {
	return []busyCase{
		{"nobody busy", nil},
		{"an empty list of busy ones", list()},
		{"block 0 busy", list(0)},
		{"block 19 busy", list(19)},
		{"one busy", list(5)},
		{"the same one twice", list(5, 5)},
		{"the same one, not side by side", list(5, 3, 5)},
		{"the same one DataBlocks times", fill(20, 7)},
		{"some that rise", list(1, 2, 3, 8, 9)},
		{"some that fall", list(18, 12, 6, 2, 0)},
		{"all but the first", without(0)},
		{"all but the last", without(19)},
		{"all but four", without(4, 9, 14, 17)},
		{"all but three", without(0, 9, 19)},
		{"all", upTo(20)},
		{"all, in another order", list(19, 0, 18, 1, 17, 2, 16, 3, 15, 4, 14, 5, 13, 6, 12, 7, 11, 8, 10, 9)},
	}
}

func wantNoWords(t *testing.T, what string, r impl.IntsResult, code int64) {
	t.Helper()
	if !same(r, impl.IntsResult{Code: code}) {
		t.Errorf("%s: %v, not code %d alone", what, r, code)
	}
}

func wantNumber(t *testing.T, what string, r impl.IntResult, want int64) {
	t.Helper()
	if r != (impl.IntResult{Value: want}) {
		t.Errorf("%s: %v, not %d", what, r, want)
	}
}

func wantNoNumber(t *testing.T, what string, r impl.IntResult, code int64) {
	t.Helper()
	if r != (impl.IntResult{Code: code}) {
		t.Errorf("%s: %v, not code %d alone", what, r, code)
	}
}

// checkFree asks FreeBlocks and PickBlocks for promise 6, where these blocks
// are used and those are busy.
func checkFree(t *testing.T, what string, list []impl.Inode, used, busy []int64) {
	t.Helper()
	want := without(append(append([]int64(nil), used...), busy...)...)
	wantWords(t, what+": FreeBlocks", impl.FreeBlocks(list, busy), want)
	for n := range int64(5) {
		told := fmt.Sprintf("%s: PickBlocks %d", what, n)
		r := impl.PickBlocks(list, busy, n)
		if n > int64(len(want)) {
			wantNoWords(t, told, r, impl.ErrFull)
			continue
		}
		wantWords(t, told, r, want[:n])
		checkPicked(t, told, r.List, used, busy)
	}
}

func checkPicked(t *testing.T, what string, picked, used, busy []int64) {
	t.Helper()
	for i, at := range picked {
		if at < 0 || at > 19 || among(used, at) || among(busy, at) {
			t.Errorf("%s: block %d is not free", what, at)
		}
		if i > 0 && at <= picked[i-1] {
			t.Errorf("%s: %v does not rise", what, picked)
		}
	}
}

func TestPickedIsFree(t *testing.T) {
	for _, c := range soundLists() {
		for _, b := range soundBusy() {
			checkFree(t, c.what+", "+b.what, c.list, c.used, b.busy)
		}
		if len(c.used) > 0 {
			checkFree(t, c.what+", the used ones busy", c.list, c.used, c.used)
			checkFree(t, c.what+", the first used one busy", c.list, c.used, c.used[:1])
			checkFree(t, c.what+", a used one and another busy", c.list, c.used, list(c.used[0], 13))
		}
		checkFree(t, c.what+", all others busy", c.list, c.used, without(c.used...))
	}
}

// What is used and what is free with nobody busy are all blocks together, and
// have none in common.
func TestUsedAndFree(t *testing.T) {
	for _, c := range soundLists() {
		used := impl.UsedBlocks(c.list)
		wantWords(t, c.what+": UsedBlocks", used, c.used)
		free := impl.FreeBlocks(c.list, nil)
		for at := range int64(20) {
			if among(used.List, at) == among(free.List, at) {
				t.Errorf("%s: block %d is of both or of none: %v, %v", c.what, at, used, free)
			}
		}
		if len(used.List)+len(free.List) != 20 {
			t.Errorf("%s: %v and %v are not 20 blocks", c.what, used, free)
		}
	}
}

// Each set of busy blocks of some, beside a file that has some of them.
func TestEachSetOfBusy(t *testing.T) {
	some := list(0, 1, 2, 3, 7, 8, 18, 19)
	x := inodes(dir(entry("a", 1)), file(1, 25, 19, 8, 0, 2))
	for set := range 1 << len(some) {
		var busy []int64
		for i, at := range some {
			if set>>i&1 == 1 {
				busy = append(busy, at)
			}
		}
		checkFree(t, fmt.Sprint("busy ", busy), x, list(0, 2, 8, 19), busy)
	}
}

// A block that two files have is used, though UsedBlocks cannot tell of it.
func TestFreeBesideBlocksOfTwo(t *testing.T) {
	both := inodes(file(1, 9, 3, 5), file(1, 17, 5, 6, 0))
	wantNoWords(t, "UsedBlocks", impl.UsedBlocks(both), impl.ErrTaken)
	checkFree(t, "a block of two files", both, list(0, 3, 5, 6), nil)
	checkFree(t, "a block of two files, busy", both, list(0, 3, 5, 6), list(5, 1))
	checkFree(t, "all blocks of two files", append(fiveFiles(), fiveFiles()...), upTo(20), nil)
}

// Where each inode is free or not, and how many there are.
func TestFirstFreeInode(t *testing.T) {
	for n := range 11 {
		for set := range 1 << n {
			first, all := n, make([]impl.Inode, n)
			for at := n - 1; at >= 0; at-- {
				all[at] = inodes(dir(entry("a", 0)), file(1, 0))[at%2]
				if set>>at&1 == 1 {
					first, all[at] = at, kind(impl.KindFree)
				}
			}
			what := fmt.Sprintf("FreeInode of %d, free as in %b", n, set)
			if first == 10 {
				wantNoNumber(t, what, impl.FreeInode(all), impl.ErrFull)
			} else {
				wantNumber(t, what, impl.FreeInode(all), int64(first))
			}
		}
	}
}

// linksCases tell how many entries lead to each place, written by hand.
func linksCases() []listCase {
	return []listCase{
		{"a directory without entries", inodes(dir()), list(0)},
		{"one entry", inodes(dir(entry("a", 1)), file(1, 0)), list(0, 1)},
		{"two entries of one directory", inodes(dir(entry("a", 1), entry("b", 1)), file(2, 0)), list(0, 2)},
		{"six entries of one directory", inodes(dir(entry("a", 1), entry("b", 1), entry("c", 1), entry("d", 1), entry("e", 1), entry("f", 1)), file(6, 0)), list(0, 6)},
		{"an entry that names its own directory", inodes(dir(entry("a", 0))), list(1)},
		{"two that name their own directory", inodes(dir(), dir(entry("a", 1), entry("b", 1))), list(0, 2)},
		{"entries of two directories", inodes(dir(entry("a", 1), entry("b", 2)), dir(entry("c", 2)), file(2, 0)), list(0, 1, 2)},
		{"a directory behind what it names", inodes(file(1, 0), file(1, 0), dir(entry("a", 1), entry("b", 0), entry("c", 1))), list(1, 2, 0)},
		{"directories that name each other", inodes(dir(entry("a", 1)), dir(entry("a", 0))), list(1, 1)},
		{"a free one that is named", inodes(dir(entry("a", 1)), kind(0)), list(0, 1)},
		{"Links that are not so", inodes(dir(entry("a", 1)), file(60, 0), file(7, 0)), list(0, 1, 0)},
		{"blocks with the numbers of places", inodes(dir(entry("a", 2)), file(1, 32, 0, 1, 2, 3), file(1, 0)), list(0, 0, 1)},
		{"entries behind the last place", inodes(dir(entry("a", 2), entry("b", 9)), file(1, 0)), list(0, 0)},
		{"no directory", inodes(file(1, 8, 1), kind(0)), list(0, 0)},
		{"MaxInodes that all name the last one", alike(10, dir(entry("a", 9), entry("b", 9), entry("c", 0))), list(10, 0, 0, 0, 0, 0, 0, 0, 0, 20)},
		{"as many entries as there may be", alike(10, dir(entry("a", 4), entry("b", 4), entry("c", 4), entry("d", 4), entry("e", 4), entry("f", 4))), list(0, 0, 0, 0, 60, 0, 0, 0, 0, 0)},
	}
}

func TestLinks(t *testing.T) {
	for _, c := range linksCases() {
		for at, want := range c.used {
			wantNumber(t, fmt.Sprintf("%s: LinksOf %d", c.what, at), impl.LinksOf(c.list, int64(at)), want)
		}
		wantNoNumber(t, c.what+": LinksOf behind the last place", impl.LinksOf(c.list, int64(len(c.list))), impl.ErrRange)
	}
}
