package tests

import (
	"fmt"
	"math"
	"testing"

	"loop.example/g00295/impl"
)

// wantListCode asks all functions of chapter 5 for a code of the list of
// inodes; it comes ahead of all that could be wrong with the rest.
func wantListCode(t *testing.T, what string, inodes []impl.Inode, code int64) {
	t.Helper()
	wantNoWords(t, what+": UsedBlocks", impl.UsedBlocks(inodes), code)
	wantNoNumber(t, what+": FreeInode", impl.FreeInode(inodes), code)
	for _, busy := range [][]int64{nil, list(3), list(-1), list(20), fill(21, 0), fill(21, 20)} {
		wantNoWords(t, what+": FreeBlocks", impl.FreeBlocks(inodes, busy), code)
		for _, n := range list(-1, 0, 4, 5) {
			wantNoWords(t, what+": PickBlocks", impl.PickBlocks(inodes, busy, n), code)
		}
	}
	for _, at := range list(-1, 0, 1, int64(len(inodes))) {
		wantNoNumber(t, what+": LinksOf", impl.LinksOf(inodes, at), code)
	}
}

// wantNoListCode asks that there is none: then the codes are the functions'
// own, and those that ask no more have none.
func wantNoListCode(t *testing.T, what string, inodes []impl.Inode) {
	t.Helper()
	wantCode(t, what+": FreeBlocks", impl.FreeBlocks(inodes, nil).Code, impl.OK)
	wantWords(t, what+": PickBlocks", impl.PickBlocks(inodes, nil, 0), nil)
	wantNoWords(t, what+": PickBlocks", impl.PickBlocks(inodes, nil, -1), impl.ErrRange)
	wantNoNumber(t, what+": LinksOf", impl.LinksOf(inodes, -1), impl.ErrRange)
	if len(inodes) > 0 {
		wantCode(t, what+": LinksOf", impl.LinksOf(inodes, 0).Code, impl.OK)
	}
}

func TestHowManyInodes(t *testing.T) {
	for _, x := range inodes(kind(0), file(1, 0), dir(), dir(entry("a", 1))) {
		for n := range 11 {
			wantNoListCode(t, fmt.Sprint(n, " of ", x), alike(n, x))
		}
		for _, n := range []int{11, 12, 20, 70000} {
			wantListCode(t, fmt.Sprint(n, " of ", x), alike(n, x), impl.ErrMany)
		}
	}
	wantNoListCode(t, "files of all blocks", tenFiles())
	wantListCode(t, "one more", append(tenFiles(), file(1, 0)), impl.ErrMany)
}

// An inode with each fault stands alone, at the first place, in the middle,
// and at the last one.
func TestInodeFaultsInLists(t *testing.T) {
	for _, c := range allInodeCases() {
		lists := map[string][]impl.Inode{"alone": inodes(c.inode)}
		for _, at := range []int{0, 5, 9} {
			all := append(alike(5, kind(0)), alike(5, dir())...)
			all[at] = c.inode
			lists[fmt.Sprint("at ", at)] = all
		}
		for where, all := range lists {
			if c.code == impl.OK {
				wantNoListCode(t, c.what+" "+where, all)
				continue
			}
			wantListCode(t, c.what+" "+where, all, c.code)
		}
	}
}

// Lists with more than one fault: which one comes first?
func TestListsOfSeveral(t *testing.T) {
	form, many, out, text, taken := kind(3), dir(entry("abcde", 1)), file(0, 0), dir(entry("A", 1)), file(1, 9, 2, 2)
	for what, c := range map[string]struct {
		list []impl.Inode
		code int64
	}{
		"how many ahead of the first inode":   {append(inodes(form), alike(10, dir())...), impl.ErrMany},
		"how many ahead of the last inode":    {append(alike(10, dir()), out), impl.ErrMany},
		"how many ahead of all inodes":        {alike(11, text), impl.ErrMany},
		"how many ahead of a block of two":    {append(alike(10, dir()), file(1, 8, 1), file(1, 8, 1)), impl.ErrMany},
		"inode by inode: form, then range":    {inodes(form, out), impl.ErrForm},
		"inode by inode: range, then form":    {inodes(out, form), impl.ErrRange},
		"inode by inode: taken, then form":    {inodes(dir(), taken, form), impl.ErrTaken},
		"inode by inode: form, then taken":    {inodes(dir(), form, taken), impl.ErrForm},
		"inode by inode: text, then many":     {inodes(text, dir(), many), impl.ErrText},
		"inode by inode: many, then text":     {inodes(many, dir(), text), impl.ErrMany},
		"inode by inode: range, then text":    {inodes(out, text, many, taken, form), impl.ErrRange},
		"an inode ahead of a block of two":    {inodes(file(1, 8, 1), file(1, 8, 1), form), impl.ErrForm},
		"a block twice of one":                {inodes(dir(), taken), impl.ErrTaken},
		"an inode behind a block twice":       {inodes(taken, form), impl.ErrTaken},
		"the last of MaxInodes, none is free": {append(alike(9, dir()), out), impl.ErrRange},
		"the last of MaxInodes, one is free":  {append(alike(9, kind(0)), form), impl.ErrForm},
	} {
		wantListCode(t, what, c.list, c.code)
	}
}

// The codes of busy blocks come behind those of the inodes and ahead of n.
func TestCodesOfBusy(t *testing.T) {
	for _, c := range []struct {
		what string
		busy []int64
		code int64
	}{
		{"nil", nil, impl.OK},
		{"DataBlocks busy ones", upTo(20), impl.OK},
		{"DataBlocks of one", fill(20, 19), impl.OK},
		{"one more", append(upTo(20), 0), impl.ErrMany},
		{"one more of one", fill(21, 19), impl.ErrMany},
		{"many more", fill(70000, 0), impl.ErrMany},
		{"how many ahead of the first", append(list(-1), upTo(20)...), impl.ErrMany},
		{"how many ahead of the last", append(upTo(20), 20), impl.ErrMany},
		{"-1", list(-1), impl.ErrRange},
		{"0", list(0), impl.OK},
		{"19", list(19), impl.OK},
		{"20", list(20), impl.ErrRange},
		{"the last one -1", list(0, 19, -1), impl.ErrRange},
		{"the last one 20", list(0, 19, 20), impl.ErrRange},
		{"the first one 20", list(20, 1, 2), impl.ErrRange},
		{"one in the middle 20", list(3, 20, 4), impl.ErrRange},
		{"the last of DataBlocks 20", append(upTo(19), 20), impl.ErrRange},
		{"far above", list(math.MaxInt64), impl.ErrRange},
		{"far below", list(math.MinInt64), impl.ErrRange},
		{"1 and a power of two", list(1<<32 + 1), impl.ErrRange},
		{"1 and a greater power of two", list(1, 1<<62+1), impl.ErrRange},
	} {
		for _, x := range soundLists() {
			what := c.what + " busy, " + x.what
			if c.code == impl.OK {
				checkFree(t, what, x.list, x.used, c.busy)
				continue
			}
			wantNoWords(t, what+": FreeBlocks", impl.FreeBlocks(x.list, c.busy), c.code)
			for _, n := range list(math.MinInt64, -1, 0, 1, 4, 5, math.MaxInt64) {
				wantNoWords(t, what+": PickBlocks", impl.PickBlocks(x.list, c.busy, n), c.code)
			}
		}
	}
}

func TestCodesOfPicking(t *testing.T) {
	// How many are asked for is looked at ahead of how many there are.
	for _, n := range list(math.MinInt64, -1<<32, -20, -1, 5, 6, 20, 21, 1<<32, 1<<32+1, math.MaxInt64) {
		for _, c := range soundLists() {
			wantNoWords(t, fmt.Sprint(c.what, ": PickBlocks ", n), impl.PickBlocks(c.list, nil, n), impl.ErrRange)
			wantNoWords(t, fmt.Sprint(c.what, ": PickBlocks ", n, " of none"), impl.PickBlocks(c.list, upTo(20), n), impl.ErrRange)
		}
	}
	// Just as many as are asked for, one fewer, and one more.
	for free := range int64(20) {
		for n := range int64(5) {
			r := impl.PickBlocks(inodes(dir()), upTo(20-free), n)
			if n > free {
				wantNoWords(t, fmt.Sprint("PickBlocks ", n, " of ", free), r, impl.ErrFull)
			} else {
				wantWords(t, fmt.Sprint("PickBlocks ", n, " of ", free), r, without(upTo(20 - free)...)[:n])
			}
		}
	}
}

func TestCodesOfUsed(t *testing.T) {
	for _, c := range []struct {
		what string
		list []impl.Inode
		code int64
	}{
		{"neighbours", inodes(file(1, 8, 4), file(1, 8, 5)), impl.OK},
		{"a block of two files", inodes(file(1, 8, 4), file(1, 8, 4)), impl.ErrTaken},
		{"block 0 of two files", inodes(file(1, 9, 0, 1), file(1, 9, 2, 0)), impl.ErrTaken},
		{"block 19 of two files", inodes(file(1, 9, 19, 1), file(1, 9, 2, 19)), impl.ErrTaken},
		{"the last of the one, the first of the other", inodes(file(1, 32, 1, 2, 3, 4), file(1, 32, 4, 5, 6, 7)), impl.ErrTaken},
		{"of one with others between", inodes(file(1, 8, 4), dir(), kind(0), file(1, 8, 3), file(1, 8, 4)), impl.ErrTaken},
		{"of the last two of MaxInodes", append(alike(8, dir()), file(1, 8, 9), file(1, 8, 9)), impl.ErrTaken},
		{"of three files", alike(3, file(1, 8, 9)), impl.ErrTaken},
		{"all of MaxInodes the same", alike(10, file(1, 32, 4, 3, 2, 1)), impl.ErrTaken},
		{"files without blocks", alike(10, file(1, 0)), impl.OK},
		{"one more than all blocks", append(fiveFiles(), file(1, 1, 12)), impl.ErrTaken},
		{"entries of two directories", alike(3, dir(entry("a", 4))), impl.OK},
	} {
		r := impl.UsedBlocks(c.list)
		wantCode(t, c.what, r.Code, c.code)
		if c.code != impl.OK {
			wantNoWords(t, c.what, r, c.code)
		}
	}
}

func TestCodesOfFreeInode(t *testing.T) {
	for _, x := range inodes(dir(), file(1, 0)) {
		for n := range 10 {
			wantNumber(t, fmt.Sprint(n, " without a free one"), impl.FreeInode(alike(n, x)), int64(n))
		}
		wantNoNumber(t, "MaxInodes without a free one", impl.FreeInode(alike(10, x)), impl.ErrFull)
		for at := range 10 {
			all := alike(10, x)
			all[at] = kind(0)
			wantNumber(t, fmt.Sprint("MaxInodes with a free one at ", at), impl.FreeInode(all), int64(at))
		}
	}
}

func TestCodesOfLinks(t *testing.T) {
	for n := range int64(11) {
		all := alike(int(n), dir(entry("a", 0), entry("b", 9)))
		for _, at := range list(math.MinInt64, -1<<32, -1, n, n+1, 10, 11, 1<<32, math.MaxInt64) {
			wantNoNumber(t, fmt.Sprint("LinksOf ", at, " of ", n), impl.LinksOf(all, at), impl.ErrRange)
		}
		if n > 0 {
			wantNumber(t, fmt.Sprint("LinksOf 0 of ", n), impl.LinksOf(all, 0), n)
			wantCode(t, "LinksOf the last place", impl.LinksOf(all, n-1).Code, impl.OK)
		}
	}
}
