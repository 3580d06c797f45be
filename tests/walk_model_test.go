package tests

import (
	"fmt"
	"maps"
	"math"
	"slices"
	"strings"
	"testing"

	"loop.example/g00295/impl"
)

// modelWays is which path leads where, grown from the top on; the top itself
// has no text.
func modelWays(f impl.Fs) map[string]int64 {
	ways := map[string]int64{"": 0}
	for range 6 {
		for path, at := range maps.Clone(ways) {
			for _, e := range f.Inodes[at].Entries {
				ways[path+"/"+e.Name] = e.Inode
			}
		}
	}
	return ways
}

// modelPaths is these in order: since entries rise, one path is ahead of
// another where the first of its names that is another one is lower, or where
// it is the beginning of the other.
func modelPaths(f impl.Fs) []string {
	ways := modelWays(f)
	delete(ways, "")
	return slices.SortedFunc(maps.Keys(ways), func(a, b string) int {
		return slices.Compare(strings.Split(a, "/"), strings.Split(b, "/"))
	})
}

// modelWalk cuts names off the end until something is there.
func modelWalk(f impl.Fs, path string) (int64, int64) {
	list, code := modelSplit(path)
	if code != impl.OK {
		return 0, code
	}
	ways := modelWays(f)
	for n := len(list); n > 0; n-- {
		at, found := ways["/"+strings.Join(list[:n], "/")]
		switch {
		case found && n == len(list):
			return at, impl.OK
		case found && f.Inodes[at].Kind == impl.KindFile:
			return 0, impl.ErrDir
		case found:
			return 0, impl.ErrNone
		}
	}
	return 0, codeIf(len(list) > 0, impl.ErrNone)
}

func modelParent(f impl.Fs, path string) (int64, int64) {
	list, code := modelSplit(path)
	if code != impl.OK {
		return 0, code
	}
	if len(list) == 0 {
		return 0, impl.ErrNone
	}
	at, code := modelWalk(f, "/"+strings.Join(list[:len(list)-1], "/"))
	if code == impl.OK && f.Inodes[at].Kind != impl.KindDir {
		return 0, impl.ErrDir
	}
	return at, code
}

func modelStat(f impl.Fs, at int64) impl.StatResult {
	x := f.Inodes[at]
	if x.Kind == impl.KindFile {
		return impl.StatResult{Inode: at, Kind: 1, Links: x.Links, Size: x.Size}
	}
	return impl.StatResult{Inode: at, Kind: 2, Links: 1, Size: int64(len(x.Entries))}
}

// modelWithin tells of each top what is within it: by one step, by two, and so
// on.
func modelWithin(f impl.Fs) map[[2]int64]bool {
	within := map[[2]int64]bool{}
	for _, at := range thereIn(f) {
		within[[2]int64{at, at}] = true
	}
	for range 10 {
		for pair := range maps.Clone(within) {
			for _, e := range f.Inodes[pair[0]].Entries {
				within[[2]int64{e.Inode, pair[1]}] = true
			}
		}
	}
	return within
}

// checkWay holds a path against the model, and gives its code.
func checkWay(t *testing.T, what string, f impl.Fs, path string) int64 {
	t.Helper()
	what = fmt.Sprintf("%s: %q", what, path)
	at, code := modelWalk(f, path)
	if r := impl.WalkPath(f, path); r != (impl.IntResult{Code: code, Value: at}) {
		t.Errorf("WalkPath, %s: %v, not code %d, %d", what, r, code, at)
	}
	want := impl.StatResult{Code: code}
	if code == impl.OK {
		want = modelStat(f, at)
	}
	wantStat(t, "StatOf, "+what, impl.StatOf(f, path), want)
	above, upper := modelParent(f, path)
	if r := impl.WalkParent(f, path); r != (impl.IntResult{Code: upper, Value: above}) {
		t.Errorf("WalkParent, %s: %v, not code %d, %d", what, r, upper, above)
	}
	return code
}

// checkWhole holds all that a whole file system tells against the model.
func checkWhole(t *testing.T, what string, f impl.Fs) {
	t.Helper()
	paths := modelPaths(f)
	checkTold(t, what, f, paths)
	for _, path := range append(names("/"), paths...) {
		checkWay(t, what, f, path)
	}
	within := modelWithin(f)
	places := append(upTo(12), math.MinInt64, -1<<32, -1, 1<<32, 1<<32+1, math.MaxInt64)
	for _, at := range places {
		for _, top := range places {
			if want := within[[2]int64{at, top}]; impl.IsWithin(f, at, top) != want {
				t.Errorf("%s: IsWithin %d, %d is not %v", what, at, top, want)
			}
		}
	}
}

// modelFault is the code of all that a file system is asked.
func modelFault(f impl.Fs) int64 {
	if code := modelReachCode(f); code != impl.OK {
		return code
	}
	return modelTreeCode(f)
}

func TestWholeTreesAgainstModel(t *testing.T) {
	for _, c := range walkTrees() {
		if !slices.Equal(modelPaths(c.fs), c.paths) {
			t.Errorf("%s: by hand %q, by the model %q", c.what, c.paths, modelPaths(c.fs))
		}
		checkWhole(t, c.what, c.fs)
	}
	for _, c := range fileTrees() {
		checkWhole(t, c.what, c.fs)
	}
}

// Three directories and a file: every way in which they can name each other.
func TestWaysOfEachGraph(t *testing.T) {
	whole := 0
	for set := range 1 << 12 {
		for links := int64(1); links < 4; links++ {
			f := tree(graph(set, links)...)
			if code := modelFault(f); code != impl.OK {
				wantNoWays(t, fmt.Sprint(f), f, code)
				continue
			}
			whole++
			checkWhole(t, fmt.Sprint(f), f)
		}
	}
	if whole != 21 {
		t.Errorf("%d of them are whole, not 21", whole)
	}
}

// diceDeep grows a whole tree most of whose directories stand one below the
// other.
func diceDeep(d *dice) impl.Fs {
	size := 3 + d.below(8)
	all := alike(int(size), kind(0))
	all[0] = dir()
	last := []int64{0}
	for at := int64(1); at < size; at++ {
		from := last[len(last)-1:]
		if d.below(4) == 0 {
			from = last
		}
		if d.below(5) > 0 {
			if all[at] = dir(); diceName(d, all, from, at) {
				last = append(last, at)
			} else {
				all[at] = kind(0)
			}
			continue
		}
		all[at] = file(0, 0)
		diceLinks(d, all, last, at, 1+d.below(30))
	}
	return tree(all...)
}

// shuffled is the same tree, with all inodes but the first at other places.
func shuffled(d *dice, f impl.Fs) impl.Fs {
	places := upTo(int64(len(f.Inodes)))
	for i := int64(len(places)) - 1; i > 1; i-- {
		j := 1 + d.below(i)
		places[i], places[j] = places[j], places[i]
	}
	next := impl.Fs{Inodes: make([]impl.Inode, len(places)), Data: f.Data}
	for at, x := range f.Inodes {
		x.Entries = slices.Clone(x.Entries)
		for i := range x.Entries {
			x.Entries[i].Inode = places[x.Entries[i].Inode]
		}
		next.Inodes[places[at]] = x
	}
	return next
}

// dicePath is a path of the file system, turned a little.
func dicePath(d *dice, paths []string) string {
	list := names()
	if n := int64(len(paths)); n > 0 {
		list = strings.Split(paths[d.below(n)], "/")[1:]
	}
	some := names("a", "b", "ab", "bz", "c", "zzzz", "x")
	for range d.below(3) {
		switch n := int64(len(list)); d.below(5) {
		case 0, 1:
			list = append(list, some[d.below(7)])
		case 2:
			if n > 0 {
				list[d.below(n)] = some[d.below(7)]
			}
		case 3:
			if n > 0 {
				list = list[:n-1]
			}
		case 4:
			list = append(list, names("", "A", "abcde", "a.b")[d.below(4)])
		}
	}
	return "/" + strings.Join(list, "/")
}

// backward tells whether a directory stands ahead of the one that names it.
func backward(f impl.Fs) bool {
	for at, x := range f.Inodes {
		for _, e := range x.Entries {
			if e.Inode < int64(at) && f.Inodes[e.Inode].Kind == impl.KindDir {
				return true
			}
		}
	}
	return false
}

func TestWaysAgainstModel(t *testing.T) {
	d := dice(11)
	var count [11]int
	turned, deep := 0, 0
	for range 1200 {
		for _, f := range []impl.Fs{shuffled(&d, diceTree(&d)), shuffled(&d, diceDeep(&d))} {
			what := fmt.Sprint(f.Inodes)
			checkWhole(t, what, f)
			if backward(f) {
				turned++
			}
			paths := modelPaths(f)
			entries := 0
			for _, x := range f.Inodes {
				entries += len(x.Entries)
			}
			if entries > len(paths) {
				deep++
			}
			for range 12 {
				count[checkWay(t, what, f, dicePath(&d, paths))]++
			}
			diceFault(&d, &f)
			if code := modelFault(f); code != impl.OK {
				wantNoWays(t, fmt.Sprint(f), f, code)
			}
		}
		if t.Failed() {
			t.FailNow()
		}
	}
	for _, code := range []int{impl.OK, impl.ErrMany, impl.ErrNone, impl.ErrText, impl.ErrDir} {
		if count[code] == 0 {
			t.Errorf("no path had code %d: %v", code, count)
		}
	}
	if turned == 0 || deep == 0 {
		t.Errorf("%d with a directory ahead of the one that names it, %d too deep", turned, deep)
	}
}
