package tests

import (
	"bytes"
	"fmt"
	"math"
	"testing"

	"loop.example/g00295/impl"
)

func wantNoBytes(t *testing.T, what string, r impl.BytesResult, code int64) {
	t.Helper()
	if !same(r, impl.BytesResult{Code: code}) {
		t.Errorf("%s: %v, not code %d alone", what, r, code)
	}
}

// wantReachCode asks for a code that ReachOf, too, tells.
func wantReachCode(t *testing.T, what string, f impl.Fs, code int64) {
	t.Helper()
	wantCode(t, what+": FsFault", impl.FsFault(f), code)
	wantNoWords(t, what+": ReachOf", impl.ReachOf(f), code)
	wantNoBytesAnywhere(t, what, f, code)
}

// wantWholeCode asks for a code that stands behind those of ReachOf, or for
// none.
func wantWholeCode(t *testing.T, what string, f impl.Fs, code int64) {
	t.Helper()
	wantCode(t, what+": FsFault", impl.FsFault(f), code)
	checkReach(t, what, f, modelReach(f.Inodes))
	if code != impl.OK {
		wantNoBytesAnywhere(t, what, f, code)
	}
}

// The fault of a file system comes ahead of all that is asked of a place.
func wantNoBytesAnywhere(t *testing.T, what string, f impl.Fs, code int64) {
	t.Helper()
	for _, at := range list(math.MinInt64, -1, 0, 1, 2, int64(len(f.Inodes)), math.MaxInt64) {
		wantNoBytes(t, fmt.Sprint(what, ": BytesIn ", at), impl.BytesIn(f, at), code)
	}
}

func TestHowManyInodesInTrees(t *testing.T) {
	for n := range 10 {
		wantWholeCode(t, fmt.Sprint(n, " free ones"), tree(append(inodes(dir()), alike(n, kind(0))...)...), impl.OK)
	}
	for _, n := range []int{10, 11, 70000} {
		f := tree(append(inodes(dir()), alike(n, kind(0))...)...)
		wantReachCode(t, fmt.Sprint(n, " free ones"), f, impl.ErrMany)
		f.Data = nil
		wantReachCode(t, fmt.Sprint(n, " free ones, no Data"), f, impl.ErrMany)
		f.Inodes[0] = file(1, 0)
		wantReachCode(t, fmt.Sprint(n, " free ones, a file ahead"), f, impl.ErrMany)
	}
}

// An inode with each fault stands alone, behind the top, and at the last
// place; what is wrong with Data comes behind it.
func TestInodeFaultsInTrees(t *testing.T) {
	for _, c := range allInodeCases() {
		if c.code == impl.OK {
			continue
		}
		for _, all := range [][]impl.Inode{
			inodes(c.inode),
			inodes(dir(), c.inode),
			inodes(dir(entry("a", 9)), c.inode),
			inodes(file(1, 0), c.inode),
			append(append(inodes(dir()), alike(8, kind(0))...), c.inode),
		} {
			what := fmt.Sprint(c.what, ", the last of ", len(all))
			for _, data := range [][][]byte{make([][]byte, 20), nil, {make([]byte, 9)}} {
				wantReachCode(t, what, impl.Fs{Inodes: all, Data: data}, c.code)
			}
		}
	}
	form, out, text := kind(3), file(0, 0), dir(entry("A", 1))
	wantReachCode(t, "inode by inode: form", tree(dir(), form, out, text), impl.ErrForm)
	wantReachCode(t, "inode by inode: range", tree(dir(), out, text, form), impl.ErrRange)
	wantReachCode(t, "inode by inode: text", tree(dir(), text, form, out), impl.ErrText)
}

func TestTopOfTrees(t *testing.T) {
	for what, all := range map[string][]impl.Inode{
		"nil":                             nil,
		"none":                            inodes(),
		"a file":                          inodes(file(1, 0)),
		"a file with bytes":               inodes(file(1, 9, 3, 4)),
		"a free one":                      inodes(kind(0)),
		"free ones alone":                 alike(10, kind(0)),
		"a file, and a directory behind":  inodes(file(1, 0), dir(entry("a", 0))),
		"a free one, a directory behind":  inodes(kind(0), dir()),
		"a file that is named":            inodes(file(1, 0), dir(entry("a", 0), entry("b", 1))),
		"a file ahead of blocks of two":   inodes(file(1, 8, 3), file(1, 8, 3)),
		"a free one ahead of no place":    inodes(kind(0), dir(entry("a", 7))),
		"a free one ahead of its own one": inodes(kind(0), dir(entry("a", 0))),
	} {
		wantReachCode(t, what, impl.Fs{Inodes: all, Data: make([][]byte, 20)}, impl.ErrForm)
		wantReachCode(t, what+", no Data", impl.Fs{Inodes: all}, impl.ErrForm)
		wantReachCode(t, what+", a byte more", impl.Fs{Inodes: all, Data: append(make([][]byte, 19), make([]byte, 9))}, impl.ErrForm)
	}
	wantWholeCode(t, "a directory", tree(dir()), impl.OK)
}

func TestHowManyData(t *testing.T) {
	for _, c := range wholeTrees() {
		for _, n := range []int{0, 1, 19, 21, 40, 70000} {
			f := c.fs
			f.Data = append(append([][]byte(nil), c.fs.Data...), make([][]byte, 70000)...)[:n]
			wantReachCode(t, fmt.Sprint(c.what, ", ", n, " blocks"), f, impl.ErrForm)
		}
	}
	f := tree(dir())
	for _, n := range []int{19, 21} {
		f.Data = make([][]byte, n)
		f.Data[n-1] = make([]byte, 9)
		wantReachCode(t, "how many ahead of a byte more", f, impl.ErrForm)
	}
	f.Data = nil
	wantReachCode(t, "nil", f, impl.ErrForm)
}

func TestHowManyBytesInData(t *testing.T) {
	for at := range int64(20) {
		for size := range int64(12) {
			full, empty := tree(dir(entry("a", 1)), file(1, 8, at)), tree(dir())
			full.Data[at] = make([]byte, size)
			empty.Data[at] = make([]byte, size)
			what := fmt.Sprint(size, " bytes in block ", at)
			switch {
			case size > 8:
				wantReachCode(t, what, full, impl.ErrMany)
				wantReachCode(t, what+" of none", empty, impl.ErrMany)
			case size == 8:
				wantWholeCode(t, what, full, impl.OK)
				wantWholeCode(t, what+" of none", empty, impl.ErrForm)
			case size == 0:
				wantWholeCode(t, what, full, impl.ErrForm)
				wantWholeCode(t, what+" of none", empty, impl.OK)
			default:
				wantWholeCode(t, what, full, impl.ErrForm)
				wantWholeCode(t, what+" of none", empty, impl.ErrForm)
			}
		}
	}
	f := tree(dir())
	f.Data[19] = make([]byte, 70000)
	wantReachCode(t, "many bytes", f, impl.ErrMany)
}

func TestBlocksOfTwoInTrees(t *testing.T) {
	data := make([][]byte, 20)
	for what, all := range map[string][]impl.Inode{
		"of two":                          inodes(dir(entry("a", 1), entry("b", 2)), file(1, 8, 4), file(1, 8, 4)),
		"block 0":                         inodes(dir(entry("a", 1), entry("b", 2)), file(1, 9, 3, 0), file(1, 9, 0, 4)),
		"block 19":                        inodes(dir(entry("a", 1), entry("b", 2)), file(1, 9, 3, 19), file(1, 9, 19, 4)),
		"of one that nothing names":       inodes(dir(entry("a", 1)), file(1, 8, 4), file(1, 8, 4)),
		"of the last two":                 append(append(inodes(dir()), alike(7, kind(0))...), file(1, 1, 6), file(1, 2, 6)),
		"ahead of an entry of no place":   inodes(dir(entry("a", 7)), file(1, 8, 4), file(1, 8, 4)),
		"ahead of an entry of a free one": inodes(dir(entry("a", 3)), file(1, 8, 4), file(1, 8, 4), kind(0)),
		"ahead of Links that are wrong":   inodes(dir(entry("a", 1)), file(7, 8, 4), file(1, 8, 4), dir()),
	} {
		wantReachCode(t, what, impl.Fs{Inodes: all, Data: data}, impl.ErrTaken)
		wantReachCode(t, what+", a byte more", impl.Fs{Inodes: all, Data: append(append([][]byte(nil), data[:19]...), make([]byte, 9))}, impl.ErrMany)
	}
	wantReachCode(t, "twice of one", tree(dir(entry("a", 1)), impl.Inode{Kind: 1, Links: 1, Size: 9, Blocks: list(4, 4)}), impl.ErrTaken)
	wantWholeCode(t, "neighbours", tree(dir(entry("a", 1), entry("b", 2)), file(1, 9, 4, 6), file(1, 9, 5, 7)), impl.OK)
}

// Each directory names each number, of inodes the last two of which are free.
func TestWhereEntriesLead(t *testing.T) {
	for n := 3; n < 11; n++ {
		for to := int64(-2); to < 13; to++ {
			for _, from := range []int{0, 1, n - 3} {
				all := append(inodes(dir(entry("a", 1))), alike(n-3, dir())...)
				all = append(all, alike(n-len(all), kind(0))...)
				all[from].Entries = append(all[from].Entries, entry("b", to))
				f := impl.Fs{Inodes: all, Data: make([][]byte, 20)}
				what := fmt.Sprint(from, " names ", to, " of ", n, ", ", all)
				switch {
				case all[from].Kind == impl.KindFree:
					wantReachCode(t, what, f, impl.ErrForm)
				case to < 0 || to > 9:
					wantReachCode(t, what, f, impl.ErrRange)
				case to >= int64(n) || all[to].Kind == impl.KindFree || all[1].Kind == impl.KindFree:
					wantReachCode(t, what, f, impl.ErrNone)
				default:
					wantWholeCode(t, what, f, modelTreeCode(f))
				}
			}
		}
	}
}

func TestEntriesThatLeadNowhere(t *testing.T) {
	data := make([][]byte, 20)
	for what, all := range map[string][]impl.Inode{
		"the first entry, no place":        inodes(dir(entry("a", 2), entry("b", 1)), file(1, 0)),
		"the last entry, no place":         inodes(dir(entry("a", 1), entry("b", 2)), file(1, 0)),
		"the first entry, free":            inodes(dir(entry("a", 2), entry("b", 1)), file(1, 0), kind(0)),
		"the last entry, free":             inodes(dir(entry("a", 1), entry("b", 2)), file(1, 0), kind(0)),
		"all entries, no place":            inodes(dir(sixEntries()...)),
		"an entry below, no place":         inodes(dir(entry("a", 1)), dir(entry("a", 2)), dir(entry("a", 9))),
		"an entry below, free":             inodes(dir(entry("a", 1)), dir(entry("a", 2)), dir(entry("a", 3)), kind(0)),
		"of one that nothing names":        inodes(dir(), dir(entry("a", 9))),
		"of one that nothing names, free":  inodes(dir(), kind(0), dir(entry("a", 1))),
		"of the last one":                  append(append(inodes(dir(entry("a", 9))), alike(8, kind(0))...), dir(entry("a", 1))),
		"ahead of Links that are wrong":    inodes(dir(entry("a", 1), entry("b", 2)), file(9, 0)),
		"ahead of one that is not reached": inodes(dir(entry("a", 3)), dir(), file(1, 0)),
		"ahead of bytes that are missing":  inodes(dir(entry("a", 1), entry("b", 2)), file(1, 8, 3)),
		"ahead of a link of the first one": inodes(dir(entry("a", 0), entry("b", 1))),
		"a free one that is the last one":  append(append(inodes(dir(entry("a", 9))), alike(8, dir())...), kind(0)),
	} {
		wantReachCode(t, what, impl.Fs{Inodes: all, Data: data}, impl.ErrNone)
	}
}

func TestHowManyLinks(t *testing.T) {
	for names := range 7 {
		for links := int64(1); links < 9; links++ {
			var entries []impl.Entry
			for i := range names {
				entries = append(entries, entry(string(rune('a'+i)), 1))
			}
			want := int64(impl.ErrForm)
			if links == int64(names) {
				want = impl.OK
			}
			wantWholeCode(t, fmt.Sprint(names, " names, Links ", links), tree(dir(entries...), file(links, 9, 3, 2)), want)
		}
	}
	for links := int64(1); links < 61; links++ {
		f := manyNames()
		f.Inodes[9].Links = links
		want := int64(impl.ErrForm)
		if links == 46 {
			want = impl.OK
		}
		wantWholeCode(t, fmt.Sprint("46 names, Links ", links), f, want)
	}
	wantWholeCode(t, "a directory with no link", tree(dir(), dir()), impl.ErrForm)
	wantWholeCode(t, "with one", tree(dir(entry("a", 1)), dir()), impl.OK)
	wantWholeCode(t, "with one of its own alone", tree(dir(), dir(entry("a", 1))), impl.ErrForm)
	wantWholeCode(t, "with two of one directory", tree(dir(entry("a", 1), entry("b", 1)), dir()), impl.ErrForm)
	wantWholeCode(t, "with two of two directories", tree(dir(entry("a", 1), entry("b", 2)), dir(), dir(entry("a", 1))), impl.ErrForm)
	wantWholeCode(t, "with one and one of its own", tree(dir(entry("a", 1)), dir(entry("a", 1))), impl.ErrForm)
	wantWholeCode(t, "the last of MaxInodes with two", tree(append(append(inodes(dir(entry("a", 9), entry("b", 9))), alike(8, kind(0))...), dir())...), impl.ErrForm)
	wantWholeCode(t, "the first with a link of its own", tree(dir(entry("a", 0))), impl.ErrForm)
	wantWholeCode(t, "the first with a link from below", tree(dir(entry("a", 1)), dir(entry("a", 0))), impl.ErrForm)
	wantWholeCode(t, "the first with a link from beside", tree(dir(), dir(entry("a", 0))), impl.ErrForm)
}

// Each block of files of each size has one byte fewer, and one more.
func TestBytesThatDoNotGoWithSize(t *testing.T) {
	for size := int64(1); size < 33; size++ {
		blocks := list(6, 19, 0, 11)[:(size+7)/8]
		for i, at := range blocks {
			whole := tree(dir(entry("a", 1)), file(1, size, blocks...))
			what := fmt.Sprint(size, " bytes, the block ", i)
			wantWholeCode(t, what, whole, impl.OK)
			held := whole.Data[at]
			whole.Data[at] = held[:len(held)-1]
			wantWholeCode(t, what+" has one fewer", whole, impl.ErrForm)
			whole.Data[at] = nil
			wantWholeCode(t, what+" has none", whole, impl.ErrForm)
			whole.Data[at] = append(held, 'x')
			if len(held) == 8 {
				wantReachCode(t, what+" has one more", whole, impl.ErrMany)
			} else {
				wantWholeCode(t, what+" has one more", whole, impl.ErrForm)
			}
		}
	}
}

// As many bytes as there should be, but not where they should be.
func TestBytesElsewhere(t *testing.T) {
	f := tree(dir(entry("a", 1), entry("b", 2)), file(1, 12, 3, 4), file(1, 2, 5))
	f.Data[3], f.Data[4] = f.Data[4], f.Data[3]
	wantWholeCode(t, "the last block is full, the first is not", f, impl.ErrForm)
	f = tree(dir(entry("a", 1), entry("b", 2)), file(1, 12, 3, 4), file(1, 2, 5))
	f.Data[4], f.Data[5] = f.Data[5], f.Data[4]
	wantWholeCode(t, "those of another file", f, impl.ErrForm)
	f = tree(dir(entry("a", 1), entry("b", 2)), file(1, 12, 3, 4), file(1, 2, 5))
	f.Data[5], f.Data[6] = f.Data[6], f.Data[5]
	wantWholeCode(t, "those of none", f, impl.ErrForm)
	f = tree(dir(entry("a", 1)), file(1, 4, 3), kind(0))
	f.Data[0] = []byte("x")
	wantWholeCode(t, "a byte in block 0", f, impl.ErrForm)
	f.Data[0], f.Data[19] = nil, []byte("x")
	wantWholeCode(t, "a byte in block 19", f, impl.ErrForm)
}

// turn is one thing that is wrong.
type turn struct {
	what  string
	code  int64
	early bool
	do    func(f *impl.Fs)
}

// turns stand in the order in which their codes are asked. Each may be done
// with any others.
func turns() []turn {
	return []turn{
		{"too many inodes", impl.ErrMany, true, func(f *impl.Fs) { f.Inodes = append(f.Inodes, alike(5, kind(0))...) }},
		{"a wrong name", impl.ErrText, true, func(f *impl.Fs) { f.Inodes[2].Entries[0].Name = "A" }},
		{"no links", impl.ErrRange, true, func(f *impl.Fs) { f.Inodes[3].Links = 0 }},
		{"the first is a file", impl.ErrForm, true, func(f *impl.Fs) { f.Inodes[0] = file(1, 0) }},
		{"Data of one more", impl.ErrForm, true, func(f *impl.Fs) { f.Data = append(f.Data, nil) }},
		{"a block of more bytes", impl.ErrMany, true, func(f *impl.Fs) { f.Data[3] = make([]byte, 9) }},
		{"a block of two files", impl.ErrTaken, true, func(f *impl.Fs) { f.Inodes[4].Blocks[0] = 8 }},
		{"an entry of a free one", impl.ErrNone, true, func(f *impl.Fs) { f.Inodes[2].Entries[1].Inode = 5 }},
		{"a file that nothing names", impl.ErrForm, false, func(f *impl.Fs) { f.Inodes[6] = file(1, 0) }},
		{"a byte of none", impl.ErrForm, false, func(f *impl.Fs) { f.Data[19] = []byte("x") }},
	}
}

// codedTree is a file system, and its FsFault, or OK.
type codedTree struct {
	what string
	fs   impl.Fs
	code int64
}

// turnedTree is what turns are done with.
func turnedTree() impl.Fs {
	return tree(dir(entry("a", 1), entry("b", 2)), file(1, 9, 8, 7), dir(entry("a", 3), entry("b", 4)), file(1, 1, 6), file(1, 3, 5), kind(0), kind(0))
}

// turnedTrees have each set of turns, of which the first tells the code.
func turnedTrees() []codedTree {
	var all []codedTree
	for set := range 1 << len(turns()) {
		c := codedTree{"turned:", turnedTree(), impl.OK}
		for i, turn := range turns() {
			if set>>i&1 == 1 {
				turn.do(&c.fs)
				c.what += " " + turn.what + ","
				c.code = firstCode(c.code, turn.code)
			}
		}
		all = append(all, c)
	}
	return all
}

// faultyTrees have each fault alone; among them are the nearest ones that have
// none.
func faultyTrees() []codedTree {
	data := make([][]byte, 20)
	long := tree(dir(entry("a", 1)), file(1, 8, 7))
	long.Data[7] = make([]byte, 9)
	all := []codedTree{
		{"nothing", impl.Fs{}, impl.ErrForm},
		{"no inodes", impl.Fs{Inodes: inodes(), Data: data}, impl.ErrForm},
		{"a file first", tree(file(1, 0), dir()), impl.ErrForm},
		{"a free one first", tree(kind(0), dir()), impl.ErrForm},
		{"a block of two", impl.Fs{Inodes: inodes(dir(entry("a", 1), entry("b", 2)), file(1, 8, 5), file(1, 8, 5)), Data: data}, impl.ErrTaken},
		{"a block twice of one", impl.Fs{Inodes: inodes(dir(entry("a", 1)), file(1, 9, 3, 3)), Data: data}, impl.ErrTaken},
		{"a block of a byte more", long, impl.ErrMany},
		{"an entry of no place", tree(dir(entry("a", 2)), dir()), impl.ErrNone},
		{"an entry of a free one", tree(dir(entry("a", 2), entry("b", 1)), dir(), kind(0)), impl.ErrNone},
		{"an entry of MaxInodes", tree(dir(entry("a", 10)), dir()), impl.ErrRange},
		{"a wrong name", tree(dir(entry("A", 1)), file(1, 0)), impl.ErrText},
		{"a long name", tree(dir(entry("abcde", 1)), file(1, 0)), impl.ErrMany},
		{"names that fall", tree(dir(entry("b", 1), entry("a", 1)), file(2, 0)), impl.ErrForm},
		{"names that are the same", tree(dir(entry("a", 1), entry("a", 1)), file(2, 0)), impl.ErrForm},
		{"no links", tree(dir(entry("a", 1)), file(0, 0)), impl.ErrRange},
	}
	for _, c := range brokenTrees() {
		all = append(all, codedTree{c.what, c.fs, impl.ErrForm})
	}
	for _, c := range allInodeCases() {
		for _, top := range inodes(dir(entry("a", 1)), dir()) {
			f := impl.Fs{Inodes: inodes(top, c.inode), Data: data}
			all = append(all, codedTree{c.what, f, modelFault(f)})
		}
	}
	for n := range 13 {
		f := tree(append(inodes(dir()), alike(n, kind(0))...)...)
		all = append(all, codedTree{fmt.Sprint(n+1, " inodes"), f, codeIf(n >= 10, impl.ErrMany)})
	}
	for _, n := range []int{0, 1, 19, 20, 21} {
		f := impl.Fs{Inodes: inodes(dir(entry("a", 1)), dir()), Data: make([][]byte, n)}
		all = append(all, codedTree{fmt.Sprint(n, " Data"), f, codeIf(n != 20, impl.ErrForm)})
	}
	return all
}

func TestCodesOfFaultyTrees(t *testing.T) {
	for _, c := range append(turnedTrees(), faultyTrees()...) {
		wantCode(t, c.what, impl.FsFault(c.fs), c.code)
	}
}

func TestWhichFaultComesFirst(t *testing.T) {
	for set := range 1 << len(turns()) {
		f := turnedTree()
		what := "nothing"
		first := turn{code: impl.OK}
		for i, c := range turns() {
			if set>>i&1 == 0 {
				continue
			}
			c.do(&f)
			if first.code == impl.OK {
				first = c
				what = c.what
			} else {
				what += ", " + c.what
			}
		}
		if first.early {
			wantReachCode(t, what, f, first.code)
		} else {
			wantWholeCode(t, what, f, first.code)
		}
	}
}

func TestPlacesOfBytesIn(t *testing.T) {
	for _, c := range wholeTrees() {
		n := int64(len(c.fs.Inodes))
		for _, at := range list(math.MinInt64, -1<<32, -2, -1, n, n+1, 10, 11, 1<<32, 1<<32+1, math.MaxInt64) {
			wantNoBytes(t, fmt.Sprint(c.what, ": BytesIn ", at), impl.BytesIn(c.fs, at), impl.ErrRange)
		}
	}
}

func TestCodesOfNewFs(t *testing.T) {
	with := func(n, at, size int) [][]byte {
		data := emptyData(n)
		data[at] = bytes.Repeat([]byte{0}, size)
		return data
	}
	two := with(20, 4, 1)
	two[15] = make([]byte, 9)
	for what, c := range map[string]struct {
		data [][]byte
		code int64
	}{
		"one more than DataBlocks":               {emptyData(21), impl.ErrForm},
		"many more":                              {emptyData(70000), impl.ErrForm},
		"one more, the last with a byte":         {with(21, 20, 1), impl.ErrForm},
		"one more, ahead of a block that is not": {with(21, 3, 9), impl.ErrForm},
		"one more, the last of more bytes":       {with(21, 20, 9), impl.ErrForm},
		"the first of more bytes":                {with(20, 0, 9), impl.ErrMany},
		"the last of more bytes":                 {with(20, 19, 9), impl.ErrMany},
		"one alone of more bytes":                {with(1, 0, 9), impl.ErrMany},
		"the last of fewer of more bytes":        {with(7, 6, 70000), impl.ErrMany},
		"the first of BlockBytes":                {with(20, 0, 8), impl.ErrForm},
		"the last of BlockBytes":                 {with(20, 19, 8), impl.ErrForm},
		"the first of one byte":                  {with(20, 0, 1), impl.ErrForm},
		"the last of one byte":                   {with(20, 19, 1), impl.ErrForm},
		"one alone of one byte":                  {with(1, 0, 1), impl.ErrForm},
		"the last of fewer of one byte":          {with(19, 18, 1), impl.ErrForm},
		"more bytes ahead of any bytes":          {two, impl.ErrMany},
		"DataBlocks":                             {with(20, 3, 0), impl.OK},
	} {
		r := impl.NewFs(c.data)
		want := impl.FsResult{Code: c.code}
		if c.code == impl.OK {
			want.Fs = tree(dir())
		}
		if !same(r, want) {
			t.Errorf("NewFs of %s: %v, not %v", what, r, want)
		}
	}
}
