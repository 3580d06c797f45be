package tests

import (
	"fmt"
	"math"
	"slices"
	"strings"
	"testing"

	"loop.example/g00295/impl"
)

// wantWayCode asks all functions that are told a path for a code alone.
func wantWayCode(t *testing.T, what string, f impl.Fs, path string, code int64) {
	t.Helper()
	what = fmt.Sprintf("%s: %q", what, path)
	wantNoNumber(t, what+": WalkPath", impl.WalkPath(f, path), code)
	wantNoNumber(t, what+": WalkParent", impl.WalkParent(f, path), code)
	wantStat(t, what+": StatOf", impl.StatOf(f, path), impl.StatResult{Code: code})
}

// wantNoWays asks all functions for the code of a file system, whatever the
// path is.
func wantNoWays(t *testing.T, what string, f impl.Fs, code int64) {
	t.Helper()
	for _, path := range names("/", "/a", "/b", "/x", "/a/a", "/b/x", "/x/y", "", "a", "/a/", "//", "/A", "/abcde", "/a/b/c/d/e/f/g", strings.Repeat("/", 31)) {
		wantWayCode(t, what, f, path, code)
	}
	wantNoNames(t, what+": PathsOf", impl.PathsOf(f), code)
	places := append(upTo(int64(len(f.Inodes)) + 1)[:min(len(f.Inodes)+1, 12)], -1)
	for _, at := range places {
		for _, top := range places {
			if impl.IsWithin(f, at, top) {
				t.Errorf("%s: IsWithin %d, %d", what, at, top)
			}
		}
	}
}

func TestFaultsAheadOfWays(t *testing.T) {
	for _, c := range append(turnedTrees(), faultyTrees()...) {
		if c.code == impl.OK {
			checkWhole(t, c.what, c.fs)
		} else {
			wantNoWays(t, c.what, c.fs, c.code)
		}
	}
}

// Each code of SplitPath comes ahead of where a way breaks off.
func TestSplitCodesOfWays(t *testing.T) {
	deep, flat := ladder("a", dir()), tree(dir(entry("a", 1), entry("abcd", 3), entry("b", 2)), file(1, 0), dir(), dir(entry("efgh", 4)), dir())
	for _, f := range []impl.Fs{tree(dir()), deep, flat, mostPaths().fs} {
		for _, c := range append(pathCases(), pathsOfSeveral()...) {
			if c.code != impl.OK {
				wantWayCode(t, c.what, f, c.text, c.code)
			} else {
				checkWay(t, c.what, f, c.text)
			}
		}
		for path := range soundPaths() {
			checkWay(t, "a sound path", f, path)
		}
		for _, b := range wrongBytes() {
			for _, path := range names("/a"+string([]byte{b}), "/"+string([]byte{b}), "/a/a"+string([]byte{b})) {
				if !strings.HasSuffix(path, "/") {
					wantWayCode(t, "a wrong byte", f, path, impl.ErrText)
				}
			}
		}
	}
}

// Each name of each way is turned into one that is none, a wrong one, and a
// long one, and each way is gone on with.
func TestWaysTurned(t *testing.T) {
	for _, c := range walkTrees() {
		for _, path := range c.paths {
			list := strings.Split(path, "/")[1:]
			for i := range list {
				for name, code := range map[string]int64{"q": impl.ErrNone, "Q": impl.ErrText, "qqqqq": impl.ErrMany} {
					turned := slices.Clone(list)
					turned[i] = name
					text := "/" + strings.Join(turned, "/")
					if got := checkWay(t, c.what, c.fs, text); got != code && !slices.Contains(c.paths, text) {
						t.Errorf("%s: %s has code %d, not %d", c.what, text, got, code)
					}
				}
			}
			for _, more := range names("/a", "/q", "/a/a", "/q/q", "/", "//", "/A", "/abcde") {
				checkWay(t, c.what, c.fs, path+more)
			}
		}
	}
}

// journey is what one function of chapter 9 is asked.
type journey struct {
	fs   impl.Fs
	lead string
	way  []string
}

// misstep is one thing that is wrong with it; end and above tell which code it
// is of WalkPath and StatOf, and of WalkParent.
type misstep struct {
	what       string
	end, above int64
	do         func(j *journey)
}

// missteps stand in the order in which their codes are asked. Each may be done
// with any others: of two that speak of one name the first is so.
func missteps() []misstep {
	turn := func(i int, was, name string) func(j *journey) {
		return func(j *journey) {
			if j.way[i] == was {
				j.way[i] = name
			}
		}
	}
	return []misstep{
		{"a block of two", impl.ErrTaken, impl.ErrTaken, func(j *journey) { j.fs.Inodes[2].Blocks[0] = 7 }},
		{"an entry of what is free", impl.ErrNone, impl.ErrNone, func(j *journey) { j.fs.Inodes[6].Entries[0].Inode = 5 }},
		{"a byte of none", impl.ErrForm, impl.ErrForm, func(j *journey) { j.fs.Data[19] = []byte("x") }},
		{"many bytes", impl.ErrMany, impl.ErrMany, func(j *journey) { j.way = append(j.way, strings.Repeat("a", 30)) }},
		{"no / ahead", impl.ErrText, impl.ErrText, func(j *journey) { j.lead = "" }},
		{"many names", impl.ErrMany, impl.ErrMany, func(j *journey) { j.way = append(j.way, "a", "a", "a", "a") }},
		{"a wrong byte", impl.ErrText, impl.ErrText, turn(0, "a", "a.")},
		{"a long name", impl.ErrMany, impl.ErrMany, turn(1, "b", "bbbbb")},
		{"the first name is a file", impl.ErrDir, impl.ErrDir, turn(0, "a", "b")},
		{"the second name is none", impl.ErrNone, impl.ErrNone, turn(1, "b", "x")},
		{"the second name is a file", impl.ErrDir, impl.ErrDir, turn(1, "b", "f")},
		{"the last name is none", impl.ErrNone, impl.OK, turn(2, "c", "x")},
	}
}

func TestWhichCodeOfWaysComesFirst(t *testing.T) {
	for set := range 1 << len(missteps()) {
		fs := tree(dir(entry("a", 3), entry("b", 1), entry("c", 6)), file(1, 9, 7, 8), file(1, 1, 6), dir(entry("b", 4), entry("f", 2)), dir(entry("c", 7)), kind(0), dir(entry("a", 8)), file(1, 3, 5), dir())
		j := journey{fs: fs, lead: "/", way: names("a", "b", "c")}
		what := "wrong:"
		var end, above int64
		for i, c := range missteps() {
			if set>>i&1 == 1 {
				c.do(&j)
				what += " " + c.what + ","
				end, above = firstCode(end, c.end), firstCode(above, c.above)
			}
		}
		checkJourney(t, what, j, end, above)
	}
}

func checkJourney(t *testing.T, what string, j journey, end, above int64) {
	t.Helper()
	path := j.lead + strings.Join(j.way, "/")
	walked, parent, stat := impl.IntResult{Value: 7}, impl.IntResult{Value: 4}, impl.StatResult{Inode: 7, Kind: 1, Links: 1, Size: 3}
	if end != impl.OK {
		walked, stat = impl.IntResult{Code: end}, impl.StatResult{Code: end}
	}
	if above != impl.OK {
		parent = impl.IntResult{Code: above}
	}
	if r := impl.WalkPath(j.fs, path); r != walked {
		t.Errorf("%s WalkPath %q: %v, not %v", what, path, r, walked)
	}
	if r := impl.WalkParent(j.fs, path); r != parent {
		t.Errorf("%s WalkParent %q: %v, not %v", what, path, r, parent)
	}
	wantStat(t, what+" StatOf "+path, impl.StatOf(j.fs, path), stat)
}

// Places that are none, and free ones, are within nothing, and nothing within
// them, not even they themselves.
func TestPlacesOfWithin(t *testing.T) {
	last := tree(append(append(inodes(dir(entry("a", 9))), alike(8, kind(0))...), dir())...)
	for _, at := range list(math.MinInt64, -1<<32, -1, 1, 8, 10, 11, 1<<32, 1<<32+9, math.MaxInt64) {
		for _, top := range list(at, 0, 9) {
			if impl.IsWithin(last, at, top) || impl.IsWithin(last, top, at) {
				t.Errorf("IsWithin of %d and %d", at, top)
			}
		}
	}
	if !impl.IsWithin(last, 9, 0) || !impl.IsWithin(last, 9, 9) || !impl.IsWithin(last, 0, 0) || impl.IsWithin(last, 0, 9) {
		t.Error("IsWithin of the last place")
	}
	last.Data[0] = []byte("x")
	if impl.IsWithin(last, 9, 0) || impl.IsWithin(last, 0, 0) || impl.IsWithin(last, 9, 9) {
		t.Error("IsWithin of what is not whole")
	}
}
