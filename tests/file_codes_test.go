package tests

import (
	"fmt"
	"math"
	"slices"
	"testing"

	"loop.example/g00295/impl"
)

// wrongBusy are lists of busy blocks, those with a code and their neighbours.
func wrongBusy() []struct {
	what string
	busy []int64
	code int64
} {
	return []struct {
		what string
		busy []int64
		code int64
	}{
		{"nil", nil, impl.OK},
		{"none", list(), impl.OK},
		{"0", list(0), impl.OK},
		{"-1", list(-1), impl.ErrRange},
		{"19", list(19), impl.OK},
		{"20", list(20), impl.ErrRange},
		{"the last one 20", list(0, 19, 20), impl.ErrRange},
		{"the first one -1", list(-1, 0, 1), impl.ErrRange},
		{"DataBlocks of one", fill(20, 19), impl.OK},
		{"DataBlocks, the last one 20", append(fill(19, 3), 20), impl.ErrRange},
		{"one more", fill(21, 19), impl.ErrMany},
		{"one more, the first -1", append(list(-1), fill(20, 0)...), impl.ErrMany},
		{"one more, the last 20", append(fill(20, 0), 20), impl.ErrMany},
		{"many", fill(70000, 1), impl.ErrMany},
		{"far above", list(math.MaxInt64), impl.ErrRange},
		{"far below", list(math.MinInt64), impl.ErrRange},
		{"1 and a power of two", list(1<<32 + 1), impl.ErrRange},
	}
}

func edges() []int64 {
	return list(math.MinInt64, -1, 0, 8, 33, 1001, math.MaxInt64)
}

// wantPlaceCode asks all functions for a code of BytesIn: it comes ahead of
// all that is asked of the rest.
func wantPlaceCode(t *testing.T, what string, f impl.Fs, at, code int64) {
	t.Helper()
	what = fmt.Sprint(what, ", at ", at)
	wantNoBytes(t, what+": BytesIn", impl.BytesIn(f, at), code)
	wantNoFs(t, what+": DropFile", impl.DropFile(f, at), code)
	for _, edge := range edges() {
		wantNoBytes(t, what+": ReadFile", impl.ReadFile(f, at, 0, edge), code)
		wantNoBytes(t, what+": ReadFile", impl.ReadFile(f, at, edge, 8), code)
		for _, busy := range [][]int64{nil, list(3), list(20), fill(21, 0)} {
			wantNoFs(t, what+": CutFile", impl.CutFile(f, at, edge, busy), code)
			for _, data := range [][]byte{nil, freshText(1), freshText(33)} {
				wantNoFs(t, what+": SetBytes", impl.SetBytes(f, at, data, busy), code)
				wantNoFs(t, what+": WriteFile", impl.WriteFile(f, at, edge, data, busy), code)
			}
		}
	}
}

// wantFileThere asks that a place has none of these codes.
func wantFileThere(t *testing.T, what string, f impl.Fs, at int64) {
	t.Helper()
	what = fmt.Sprint(what, ", at ", at)
	wantCode(t, what+": ReadFile", impl.ReadFile(f, at, 0, 0).Code, impl.OK)
	wantCode(t, what+": SetBytes", impl.SetBytes(f, at, nil, nil).Code, impl.OK)
	wantCode(t, what+": WriteFile", impl.WriteFile(f, at, 0, nil, nil).Code, impl.OK)
	wantCode(t, what+": CutFile", impl.CutFile(f, at, 0, nil).Code, impl.OK)
	wantCode(t, what+": DropFile", impl.DropFile(f, at).Code, impl.OK)
}

func TestPlacesOfFiles(t *testing.T) {
	for _, c := range fileTrees() {
		n := int64(len(c.fs.Inodes))
		for at, x := range c.fs.Inodes {
			switch x.Kind {
			case impl.KindDir:
				wantPlaceCode(t, c.what, c.fs, int64(at), impl.ErrDir)
			case impl.KindFree:
				wantPlaceCode(t, c.what, c.fs, int64(at), impl.ErrNone)
			default:
				wantFileThere(t, c.what, c.fs, int64(at))
			}
		}
		for _, at := range list(math.MinInt64, -1<<32, -1, n, n+1, 1<<32, 1<<32+1, math.MaxInt64) {
			wantPlaceCode(t, c.what, c.fs, at, impl.ErrRange)
		}
	}
}

// A fault of the file system comes ahead of what is wrong with a place.
func TestFaultsAheadOfPlaces(t *testing.T) {
	for _, c := range brokenTrees() {
		for at := int64(-1); at < 4; at++ {
			wantPlaceCode(t, c.what, c.fs, at, impl.ErrForm)
		}
	}
	for _, c := range turns() {
		f := turnedTree()
		for _, at := range list(1, 3, 4) {
			wantFileThere(t, "ahead of "+c.what, f, at)
		}
		c.do(&f)
		for at := int64(-1); at < 8; at++ {
			wantPlaceCode(t, c.what, f, at, c.code)
		}
	}
	for _, c := range allInodeCases() {
		if c.code != impl.OK {
			f := tree(dir(entry("a", 1)), file(1, 0))
			f.Inodes = append(f.Inodes, c.inode)
			wantPlaceCode(t, c.what, f, 1, c.code)
		}
	}
	wantPlaceCode(t, "nothing", impl.Fs{}, 0, impl.ErrForm)
	wantPlaceCode(t, "a byte that is missing", impl.Fs{Inodes: inodes(dir(entry("a", 1)), file(1, 1, 0)), Data: make([][]byte, 20)}, 1, impl.ErrForm)
}

// What is busy is asked behind the place, and ahead of all the rest, even
// where nothing is written.
func TestBusyOfFiles(t *testing.T) {
	f := tree(dir(entry("a", 1)), file(1, 9, 8, 7))
	full := tree(append(inodes(dir(sixEntries()[:5]...)), oneLink(fiveFiles())...)...)
	for _, c := range wrongBusy() {
		if c.code == impl.OK {
			for _, n := range fileSizes() {
				checkSetBytes(t, c.what, f, 1, freshText(n), c.busy)
				checkCut(t, c.what, f, 1, n, c.busy)
				checkWrite(t, c.what, f, 1, 31-n/2, freshText(1), c.busy)
			}
			checkNothingWritten(t, c.what, full, 1, c.busy)
			continue
		}
		for _, edge := range edges() {
			wantNoFs(t, c.what+": CutFile", impl.CutFile(f, 1, edge, c.busy), c.code)
			wantNoFs(t, c.what+": CutFile", impl.CutFile(full, 1, edge, c.busy), c.code)
			for _, data := range [][]byte{nil, freshText(1), freshText(32), freshText(33)} {
				wantNoFs(t, c.what+": SetBytes", impl.SetBytes(f, 1, data, c.busy), c.code)
				wantNoFs(t, c.what+": SetBytes", impl.SetBytes(full, 1, data, c.busy), c.code)
				wantNoFs(t, c.what+": WriteFile", impl.WriteFile(f, 1, edge, data, c.busy), c.code)
				wantNoFs(t, c.what+": WriteFile", impl.WriteFile(full, 1, edge, data, c.busy), c.code)
			}
		}
	}
}

func TestCodesOfReading(t *testing.T) {
	f := tree(dir(entry("a", 1), entry("b", 2)), file(1, 9, 8, 7), file(1, 0))
	for at := int64(1); at < 3; at++ {
		for _, from := range list(math.MinInt64, -1<<32, -1, 0, 1000, 1001, 1<<32, math.MaxInt64) {
			for _, n := range list(math.MinInt64, -1<<32, -1, 0, 100, 101, 1<<32, math.MaxInt64) {
				what := fmt.Sprint("ReadFile ", at, " from ", from, ", ", n)
				r := impl.ReadFile(f, at, from, n)
				if from < 0 || from > 1000 || n < 0 || n > 100 {
					wantNoBytes(t, what, r, impl.ErrRange)
				} else if from == 0 && n == 100 {
					wantBytes(t, what, r, textOf(int(at), f.Inodes[at].Size))
				} else {
					wantBytes(t, what, r, nil)
				}
			}
		}
	}
}

func TestTooManyBytes(t *testing.T) {
	for _, c := range sizedTrees() {
		for _, at := range filesIn(c.fs) {
			checkSetBytes(t, c.what, c.fs, at, freshText(32), nil)
			for _, n := range list(33, 40, 41, 70000) {
				wantNoFs(t, fmt.Sprint(c.what, ": SetBytes of ", n), impl.SetBytes(c.fs, at, freshText(n), nil), impl.ErrMany)
				wantNoFs(t, fmt.Sprint(c.what, ": SetBytes of ", n, ", all busy"), impl.SetBytes(c.fs, at, freshText(n), upTo(20)), impl.ErrMany)
				wantNoFs(t, fmt.Sprint(c.what, ": WriteFile of ", n), impl.WriteFile(c.fs, at, 0, freshText(n), nil), impl.ErrMany)
			}
		}
	}
}

// From and the length of data are together what a file may have, one below
// it, and one above it.
func TestWhereWritingEnds(t *testing.T) {
	for _, c := range sizedTrees() {
		for _, at := range filesIn(c.fs) {
			for from := range int64(36) {
				for _, end := range list(31, 32, 33, 34) {
					if end < from {
						continue
					}
					data := freshText(end - from)
					what := fmt.Sprint(c.what, ": WriteFile from ", from, " up to ", end)
					switch {
					case end > 32:
						wantNoFs(t, what, impl.WriteFile(c.fs, at, from, data, nil), impl.ErrMany)
						wantNoFs(t, what+", all busy", impl.WriteFile(c.fs, at, from, data, upTo(20)), impl.ErrMany)
					case end > from:
						checkWrite(t, what, c.fs, at, from, data, nil)
					default:
						checkNothingWritten(t, what, c.fs, at, upTo(20))
					}
				}
			}
		}
	}
}

// Where from leaves its bounds nothing else of the call matters.
func TestWhereWritingBegins(t *testing.T) {
	f := tree(dir(entry("a", 1), entry("b", 2)), file(1, 9, 8, 7), file(1, 0))
	for at := int64(1); at < 3; at++ {
		for _, n := range list(0, 1, 32, 33, 70000) {
			for _, busy := range [][]int64{nil, upTo(20)} {
				for _, from := range list(math.MinInt64, -1<<32, -33, -1, 1001, 1002, 1<<32, math.MaxInt64-1, math.MaxInt64) {
					wantNoFs(t, fmt.Sprint("WriteFile from ", from, ", ", n), impl.WriteFile(f, at, from, freshText(n), busy), impl.ErrRange)
				}
				for _, from := range list(33, 34, 100, 999, 1000) {
					wantNoFs(t, fmt.Sprint("WriteFile from ", from, ", ", n), impl.WriteFile(f, at, from, freshText(n), busy), impl.ErrMany)
				}
			}
		}
	}
}

func TestSizesToCutTo(t *testing.T) {
	for _, c := range sizedTrees() {
		for _, at := range filesIn(c.fs) {
			for _, size := range list(0, 1, 31, 32) {
				checkCut(t, c.what, c.fs, at, size, nil)
			}
			for _, size := range list(math.MinInt64, -1<<32, -8, -1, 33, 40, 1000, 1<<32, 1<<32+8, math.MaxInt64) {
				for _, busy := range [][]int64{nil, upTo(20)} {
					wantNoFs(t, fmt.Sprint(c.what, ": CutFile to ", size), impl.CutFile(c.fs, at, size, busy), impl.ErrRange)
				}
			}
		}
	}
}

// Just as many blocks are free as are needed, one fewer, and one more, because
// of other files, and because of busy ones. The file's own are not among them.
func TestJustEnoughRoom(t *testing.T) {
	fives := oneLink(fiveFiles())
	for free := range int64(6) {
		// All blocks are of files, or free; the file has the first three.
		all := append(inodes(dir(sixEntries()...), file(1, 20, 10, 14, 12)), fives[:4]...)
		all = append(all, file(1, 1, 13))
		for i := range free {
			if i == 0 {
				all[6] = file(1, 0)
			} else {
				all[5].Size, all[5].Blocks = all[5].Size-8, all[5].Blocks[:4-i]
			}
		}
		checkRoom(t, "beside files", tree(all...), 1, nil, free)

		// All but these are busy, or of the file.
		f := tree(dir(entry("a", 1)), file(1, 20, 10, 14, 12))
		busy := without(10, 14, 12)
		checkRoom(t, "beside busy ones", f, 1, busy[:17-free], free)
		checkRoom(t, "beside busy ones, its own among them", f, 1, append(busy[:17-free:17-free], 12, 10, 14), free)

		// Both, and a block that is of a file and busy.
		both := tree(dir(entry("a", 1), entry("b", 2)), file(1, 20, 10, 14, 12), file(1, 16, 0, 19))
		rest := without(10, 14, 12, 0, 19)
		checkRoom(t, "beside both", both, 1, append(rest[:15-free:15-free], 19), free)
	}
}

// checkRoom writes as many blocks as are free, and one more.
func checkRoom(t *testing.T, what string, f impl.Fs, at int64, busy []int64, free int64) {
	t.Helper()
	wantCode(t, what+": FsFault", impl.FsFault(f), impl.OK)
	if n := int64(len(impl.FreeBlocks(f.Inodes, busy).List)); n != free {
		t.Fatalf("%s: %d blocks are free, not %d", what, n, free)
	}
	for need := range int64(5) {
		for _, size := range list(need*8-7, need*8) {
			if size < 0 {
				continue
			}
			told := fmt.Sprint(what, ", ", free, " free, ", size, " bytes")
			wantRoom(t, told+": SetBytes", impl.SetBytes(f, at, freshText(size), busy), need <= free)
			wantRoom(t, told+": CutFile", impl.CutFile(f, at, size, busy), need <= free)
			checkSetBytes(t, told, f, at, freshText(size), busy)
			checkCut(t, told, f, at, size, busy)
			if size > 20 {
				wantRoom(t, told+": WriteFile", impl.WriteFile(f, at, size-1, freshText(1), busy), need <= free)
				checkWrite(t, told, f, at, size-1, freshText(1), busy)
			} else if size > 0 {
				wantRoom(t, told+": WriteFile", impl.WriteFile(f, at, 0, freshText(size), busy), free >= 3)
				checkWrite(t, told, f, at, 0, freshText(size), busy)
			}
		}
	}
	checkNothingWritten(t, what, f, at, busy)
}

func wantRoom(t *testing.T, what string, r impl.FsResult, room bool) {
	t.Helper()
	if !room {
		wantNoFs(t, what, r, impl.ErrFull)
		return
	}
	wantCode(t, what, r.Code, impl.OK)
}

// asked is what one function of chapter 7 is asked.
type asked struct {
	fs   impl.Fs
	at   int64
	from int64
	n    int64
	size int64
	data []byte
	busy []int64
}

// wrong is one thing that is wrong with it; of names the functions that ask
// for it are told.
type wrong struct {
	what  string
	code  int64
	names []string
	do    func(a *asked)
}

// wrongs stand in the order in which their codes are asked. Each may be done
// with any others.
func wrongs() []wrong {
	all := []string{"ReadFile", "SetBytes", "WriteFile", "CutFile", "DropFile"}
	writing := []string{"SetBytes", "WriteFile", "CutFile"}
	return []wrong{
		{"an entry of what is free", impl.ErrNone, all, func(a *asked) { a.fs.Inodes[4].Entries[1].Inode = 5 }},
		{"a byte that is missing", impl.ErrForm, all, func(a *asked) { a.fs.Data[6] = nil }},
		{"no place", impl.ErrRange, all, func(a *asked) { a.at = 7 }},
		{"too many busy ones", impl.ErrMany, writing, func(a *asked) { a.busy = fill(21, 0) }},
		{"a busy one that is none", impl.ErrRange, writing, func(a *asked) { a.busy = append(slices.Clone(a.busy)[:len(a.busy)-1], 20) }},
		{"from below 0", impl.ErrRange, []string{"ReadFile", "WriteFile"}, func(a *asked) { a.from = -1 }},
		{"n above 100", impl.ErrRange, []string{"ReadFile"}, func(a *asked) { a.n = 101 }},
		{"a size above what a file may have", impl.ErrRange, []string{"CutFile"}, func(a *asked) { a.size = 33 }},
		{"more data than a file may have", impl.ErrMany, []string{"SetBytes", "WriteFile"}, func(a *asked) { a.data = freshText(33) }},
		{"no room", impl.ErrFull, writing, func(a *asked) { a.fs.Inodes[6], a.fs.Data[1] = file(1, 1, 1), []byte("x") }},
	}
}

// answers are the codes of all functions; each answer is its code alone, if
// that is not OK.
func answers(t *testing.T, what string, a asked) map[string]int64 {
	t.Helper()
	read := impl.ReadFile(a.fs, a.at, a.from, a.n)
	if read.Code != impl.OK {
		wantNoBytes(t, what, read, read.Code)
	}
	codes := map[string]int64{"ReadFile": read.Code}
	for name, r := range map[string]impl.FsResult{
		"SetBytes":  impl.SetBytes(a.fs, a.at, a.data, a.busy),
		"WriteFile": impl.WriteFile(a.fs, a.at, a.from, a.data, a.busy),
		"CutFile":   impl.CutFile(a.fs, a.at, a.size, a.busy),
		"DropFile":  impl.DropFile(a.fs, a.at),
	} {
		codes[name] = r.Code
		if r.Code != impl.OK {
			wantNoFs(t, what+": "+name, r, r.Code)
		}
	}
	return codes
}

// Without a fault a byte can be written into the one block that is free.
func TestWhichCodeOfFilesComesFirst(t *testing.T) {
	for set := range 1 << len(wrongs()) {
		fs := tree(dir(entry("a", 1), entry("b", 4), entry("c", 6)), file(1, 1, 0), file(1, 9, 8, 6), kind(0), dir(entry("a", 2), entry("b", 1)), kind(0), file(1, 0))
		fs.Inodes[1].Links = 2
		a := asked{fs: fs, at: 1, n: 1, size: 1, data: []byte("x"), busy: without(1)}
		what := "wrong:"
		want := map[string]int64{"ReadFile": impl.OK, "SetBytes": impl.OK, "WriteFile": impl.OK, "CutFile": impl.OK, "DropFile": impl.OK}
		for i, c := range wrongs() {
			if set>>i&1 == 0 {
				continue
			}
			c.do(&a)
			what += " " + c.what + ","
			for _, name := range c.names {
				if want[name] == impl.OK {
					want[name] = c.code
				}
			}
		}
		for name, code := range answers(t, what, a) {
			wantCode(t, what+" "+name, code, want[name])
		}
	}
}
