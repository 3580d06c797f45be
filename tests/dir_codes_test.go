package tests

import (
	"fmt"
	"math"
	"slices"
	"strings"
	"testing"

	"loop.example/g00295/impl"
)

// wantDirCode asks all functions for a code that all of them ask ahead of what
// is wrong with a name, or with where it should lead.
func wantDirCode(t *testing.T, what string, f impl.Fs, in, code int64) {
	t.Helper()
	what = fmt.Sprint(what, ", in ", in)
	wantNoNames(t, what+": NamesIn", impl.NamesIn(f, in), code)
	if impl.IsEmptyDir(f, in) {
		t.Errorf("%s: IsEmptyDir", what)
	}
	for _, name := range names("a", "b", "x", "", "A", "abcde") {
		wantNoNumber(t, what+": LookName "+name, impl.LookName(f, in, name), code)
		wantNoFs(t, what+": DropName "+name, impl.DropName(f, in, name), code)
		for _, at := range list(math.MinInt64, -1, 0, 1, 5, 10, math.MaxInt64) {
			wantNoFs(t, fmt.Sprint(what, ": AddName ", name, " of ", at), impl.AddName(f, in, name, at), code)
		}
	}
}

// wantDirThere asks that a place has none of these codes.
func wantDirThere(t *testing.T, what string, f impl.Fs, in int64) {
	t.Helper()
	what = fmt.Sprint(what, ", in ", in)
	wantNames(t, what+": NamesIn", impl.NamesIn(f, in), namesOf(f.Inodes[in]))
	if impl.IsEmptyDir(f, in) != (len(f.Inodes[in].Entries) == 0) {
		t.Errorf("%s: IsEmptyDir", what)
	}
	wantNoNumber(t, what+": LookName", impl.LookName(f, in, "zzz"), impl.ErrNone)
	wantNoFs(t, what+": DropName", impl.DropName(f, in, "zzz"), impl.ErrNone)
	wantNoFs(t, what+": AddName", impl.AddName(f, in, "zzz", -1), impl.ErrNone)
	wantNoNumber(t, what+": LookName of a wrong one", impl.LookName(f, in, "zzzzz"), impl.ErrMany)
}

func TestPlacesOfDirs(t *testing.T) {
	for _, c := range dirTrees() {
		n := int64(len(c.fs.Inodes))
		for at, x := range c.fs.Inodes {
			if x.Kind == impl.KindDir {
				wantDirThere(t, c.what, c.fs, int64(at))
			} else {
				wantDirCode(t, c.what, c.fs, int64(at), impl.ErrDir)
			}
		}
		for _, in := range list(math.MinInt64, -1<<32, -1, n, n+1, 1<<32, 1<<32+1, math.MaxInt64) {
			wantDirCode(t, c.what, c.fs, in, impl.ErrRange)
		}
	}
	last := tree(append(append(inodes(dir(entry("a", 9))), alike(8, kind(0))...), dir())...)
	wantDirThere(t, "the last of MaxInodes", last, 9)
	wantDirCode(t, "one behind MaxInodes", last, 10, impl.ErrRange)
	wantDirCode(t, "a free one", last, 8, impl.ErrDir)
}

// The codes of ReachOf come ahead of all that is asked of a place; those that
// FsFault asks behind them are asked by nobody here.
func TestReachCodesAheadOfDirs(t *testing.T) {
	for set := range 1 << len(turns()) {
		f := turnedTree()
		what, code := "turned:", int64(impl.OK)
		for i, c := range turns() {
			if set>>i&1 == 0 {
				continue
			}
			c.do(&f)
			what += " " + c.what + ","
			if c.early {
				code = firstCode(code, c.code)
			}
		}
		for _, in := range list(-1, 0, 1, 2, 5, int64(len(f.Inodes))) {
			switch {
			case code != impl.OK:
				wantDirCode(t, what, f, in, code)
			case in == 0 || in == 2:
				wantDirThere(t, what, f, in)
			}
		}
	}
}

func TestInodeFaultsAheadOfDirs(t *testing.T) {
	for _, c := range allInodeCases() {
		for _, all := range [][]impl.Inode{inodes(dir(), c.inode), append(append(inodes(dir()), alike(8, kind(0))...), c.inode)} {
			f := impl.Fs{Inodes: all, Data: make([][]byte, 20)}
			if code := modelReachCode(f); code != impl.OK {
				wantDirCode(t, c.what, f, 0, code)
				wantDirCode(t, c.what, f, -1, code)
			} else {
				wantDirThere(t, c.what, f, 0)
			}
		}
	}
}

// Each code of ReachOf, and the nearest file system that has it not.
func TestReachCodesOfDirs(t *testing.T) {
	for n := range 13 {
		f := tree(append(inodes(dir()), alike(n, kind(0))...)...)
		if n < 10 {
			wantDirThere(t, fmt.Sprint(n+1, " inodes"), f, 0)
		} else {
			wantDirCode(t, fmt.Sprint(n+1, " inodes"), f, 0, impl.ErrMany)
		}
	}
	for _, n := range []int{0, 1, 19, 20, 21, 40} {
		f := impl.Fs{Inodes: inodes(dir(entry("a", 1)), dir()), Data: make([][]byte, n)}
		if n == 20 {
			wantDirThere(t, "DataBlocks", f, 1)
		} else {
			wantDirCode(t, fmt.Sprint(n, " Data"), f, 1, impl.ErrForm)
		}
	}
	for _, at := range list(0, 7, 19) {
		f := tree(dir(entry("a", 1)), dir())
		f.Data[at] = make([]byte, 8)
		wantDirThere(t, "a block of BlockBytes", f, 1)
		f.Data[at] = make([]byte, 9)
		wantDirCode(t, "a block of one byte more", f, 1, impl.ErrMany)
	}
	data := make([][]byte, 20)
	wantDirCode(t, "nothing", impl.Fs{}, 0, impl.ErrForm)
	wantDirCode(t, "no inodes", impl.Fs{Inodes: inodes(), Data: data}, 0, impl.ErrForm)
	wantDirCode(t, "a file first", tree(file(1, 0), dir()), 1, impl.ErrForm)
	wantDirCode(t, "a free one first", tree(kind(0), dir()), 1, impl.ErrForm)
	wantDirThere(t, "a directory first", tree(dir(), dir()), 1)
	wantDirCode(t, "a block of two", impl.Fs{Inodes: inodes(dir(entry("a", 1), entry("b", 2)), file(1, 8, 5), file(1, 8, 5)), Data: data}, 0, impl.ErrTaken)
	wantDirThere(t, "neighbours", impl.Fs{Inodes: inodes(dir(entry("a", 1), entry("b", 2)), file(1, 8, 5), file(1, 8, 6)), Data: data}, 0)
	wantDirCode(t, "an entry of no place", tree(dir(entry("a", 2)), dir()), 1, impl.ErrNone)
	wantDirCode(t, "an entry of a free one", tree(dir(entry("a", 2)), dir(), kind(0)), 1, impl.ErrNone)
	wantDirCode(t, "of one that nothing names", tree(dir(), dir(entry("a", 2))), 0, impl.ErrNone)
	wantDirThere(t, "an entry of the last place", tree(dir(entry("a", 2)), dir(), dir()), 1)
}

// Each code of NameFault comes behind the place, and ahead of what is there.
func TestNameFaultsInDirs(t *testing.T) {
	full := tree(append(inodes(dir(sixEntries()...)), alike(6, file(60, 0))...)...)
	for _, c := range nameCases() {
		for _, f := range []impl.Fs{tree(dir()), tree(dir(entry("a", 1)), file(1, 0)), full} {
			look := impl.LookName(f, 0, c.text)
			if c.code == impl.OK {
				if slices.Contains(namesOf(f.Inodes[0]), c.text) {
					wantCode(t, c.what, look.Code, impl.OK)
				} else {
					wantNoNumber(t, c.what, look, impl.ErrNone)
				}
				continue
			}
			wantNoNumber(t, c.what+": LookName", look, c.code)
			wantNoFs(t, c.what+": DropName", impl.DropName(f, 0, c.text), c.code)
			for _, at := range list(-1, 0, 1, 9) {
				wantNoFs(t, c.what+": AddName", impl.AddName(f, 0, c.text, at), c.code)
			}
			wantDirCode(t, c.what, f, -1, impl.ErrRange)
		}
	}
	wantNoNumber(t, "many bytes", impl.LookName(full, 0, strings.Repeat("a", 100000)), impl.ErrMany)
}

func TestNamesThatAreThere(t *testing.T) {
	for _, c := range dirTrees() {
		for _, in := range dirsIn(c.fs) {
			for _, e := range c.fs.Inodes[in].Entries {
				for _, at := range list(math.MinInt64, -1, 0, e.Inode, int64(len(c.fs.Inodes)), math.MaxInt64) {
					wantNoFs(t, fmt.Sprint(c.what, ": AddName ", e.Name, " of ", at), impl.AddName(c.fs, in, e.Name, at), impl.ErrTaken)
				}
			}
			for _, name := range freshNames(c.fs.Inodes[in]) {
				wantNoFs(t, c.what+": DropName "+name, impl.DropName(c.fs, in, name), impl.ErrNone)
			}
		}
	}
}

// A name is added of each place, of those that are none, and of free ones.
func TestWhereNamesMayLead(t *testing.T) {
	for _, c := range dirTrees() {
		n := int64(len(c.fs.Inodes))
		for _, in := range dirsIn(c.fs) {
			name := freshNames(c.fs.Inodes[in])[0]
			for _, at := range list(math.MinInt64, -1<<32, -1, n, n+1, 10, 1<<32, 1<<32+1, math.MaxInt64) {
				wantNoFs(t, fmt.Sprint(c.what, ": AddName of ", at), impl.AddName(c.fs, in, name, at), impl.ErrNone)
			}
			for at, x := range c.fs.Inodes {
				r := impl.AddName(c.fs, in, name, int64(at))
				switch {
				case x.Kind == impl.KindFree:
					wantNoFs(t, fmt.Sprint(c.what, ": AddName of the free ", at), r, impl.ErrNone)
				case len(c.fs.Inodes[in].Entries) == 6:
					wantNoFs(t, fmt.Sprint(c.what, ": AddName beside six of ", at), r, impl.ErrMany)
				default:
					wantCode(t, fmt.Sprint(c.what, ": AddName of ", at), r.Code, impl.OK)
				}
			}
		}
	}
}

// Directories of each number of entries beside files of each number of links.
func TestHowManyNames(t *testing.T) {
	for n := range int64(7) {
		for links := int64(1); links < 61; links++ {
			all := append(inodes(dir(entry("a", 8)), file(links, 9, 7, 3), dir()), alike(5, file(1, 0))...)
			all = append(all, dir())
			for i := range n {
				all[8].Entries = append(all[8].Entries, entry(string(rune('b'+2*i)), 1))
			}
			f := tree(all...)
			what := fmt.Sprint(n, " entries, ", links, " links")
			for _, name := range names("a", "e", "zz") {
				for _, at := range list(0, 1, 2, 3, 8) {
					if n == 6 || at == 1 && links == 60 {
						wantNoFs(t, fmt.Sprint(what, ": AddName of ", at), impl.AddName(f, 8, name, at), impl.ErrMany)
					} else {
						checkNameAdded(t, what, f, 8, name, at)
					}
				}
			}
			wantNoFs(t, what+", of a free one", impl.AddName(f, 8, "a", 9), impl.ErrNone)
		}
	}
}

// naming is what one function of chapter 8 is asked.
type naming struct {
	fs   impl.Fs
	in   int64
	name string
	at   int64
}

// misnaming is one thing that is wrong with it; of ask the functions that ask
// for it are told.
type misnaming struct {
	what string
	code int64
	ask  string
	do   func(a *naming)
}

// misnamings stand in the order in which their codes are asked. Each may be
// done with any others: of two that speak of one thing the first is so.
func misnamings() []misnaming {
	all, named := "look add drop names", "look add drop"
	return []misnaming{
		{"a block of two", impl.ErrTaken, all, func(a *naming) { a.fs.Inodes[2].Blocks[0] = 7 }},
		{"an entry of what is free", impl.ErrNone, all, func(a *naming) { a.fs.Inodes[4].Entries[0].Inode = 5 }},
		{"dir is no place", impl.ErrRange, all, func(a *naming) { a.in = 6 }},
		{"dir is a file", impl.ErrDir, all, func(a *naming) {
			if a.in == 3 {
				a.in = 1
			}
		}},
		{"a wrong byte", impl.ErrText, named, func(a *naming) { a.name = "abC" }},
		{"a long name", impl.ErrMany, named, func(a *naming) {
			if a.name == "x" {
				a.name = "xxxxx"
			}
		}},
		{"the name is there", impl.ErrTaken, "add", func(a *naming) { a.fs.Inodes[3].Entries = append(a.fs.Inodes[3].Entries, entry("x", 2)) }},
		{"at is no place", impl.ErrNone, "add", func(a *naming) { a.at = 6 }},
		{"at is free", impl.ErrNone, "add", func(a *naming) {
			if a.at == 1 {
				a.at = 5
			}
		}},
		{"MaxEntries", impl.ErrMany, "add", func(a *naming) {
			more := []impl.Entry{entry("y", 4), entry("ya", 4), entry("yb", 4), entry("yc", 4), entry("yd", 4)}
			x := &a.fs.Inodes[3]
			x.Entries = append(x.Entries, more[:6-len(x.Entries)]...)
		}},
		{"60 links", impl.ErrMany, "add", func(a *naming) { a.fs.Inodes[1].Links = 60 }},
	}
}

func TestWhichCodeOfDirsComesFirst(t *testing.T) {
	for set := range 1 << len(misnamings()) {
		fs := tree(dir(entry("a", 1), entry("b", 3), entry("c", 4)), file(59, 9, 7, 8), file(1, 1, 6), dir(entry("a", 1)), dir(entry("a", 2)), kind(0))
		a := naming{fs: fs, in: 3, name: "x", at: 1}
		what := "wrong:"
		want := map[string]int64{}
		for i, c := range misnamings() {
			if set>>i&1 == 0 {
				continue
			}
			c.do(&a)
			what += " " + c.what + ","
			for _, ask := range strings.Fields(c.ask) {
				want[ask] = firstCode(want[ask], c.code)
			}
		}
		if !slices.Contains(namesOf(a.fs.Inodes[3]), "x") {
			want["look"] = firstCode(want["look"], impl.ErrNone)
			want["drop"] = firstCode(want["drop"], impl.ErrNone)
		}
		checkNaming(t, what, a, want)
	}
}

func checkNaming(t *testing.T, what string, a naming, want map[string]int64) {
	t.Helper()
	look, listed := impl.LookName(a.fs, a.in, a.name), impl.NamesIn(a.fs, a.in)
	if want["look"] != impl.OK {
		wantNoNumber(t, what+" LookName", look, want["look"])
	} else {
		wantNumber(t, what+" LookName", look, 2)
	}
	if want["names"] != impl.OK {
		wantNoNames(t, what+" NamesIn", listed, want["names"])
	} else {
		wantNames(t, what+" NamesIn", listed, namesOf(a.fs.Inodes[a.in]))
	}
	if impl.IsEmptyDir(a.fs, a.in) {
		t.Errorf("%s IsEmptyDir", what)
	}
	for ask, r := range map[string]impl.FsResult{"add": impl.AddName(a.fs, a.in, a.name, a.at), "drop": impl.DropName(a.fs, a.in, a.name)} {
		wantCode(t, what+" "+ask, r.Code, want[ask])
		if want[ask] != impl.OK {
			wantNoFs(t, what+" "+ask, r, want[ask])
		}
	}
}
