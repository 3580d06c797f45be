package tests

import (
	"fmt"
	"strings"
	"testing"

	"loop.example/g00295/impl"
)

// modelItems is chapter 11 told another way: firsts are found from the last
// path on, so that the first one is what stays.
func modelItems(f impl.Fs) []impl.Item {
	ways, paths := modelWays(f), modelPaths(f)
	first := map[int64]string{}
	for i := len(paths) - 1; i >= 0; i-- {
		first[ways[paths[i]]] = paths[i]
	}
	var all []impl.Item
	for _, path := range paths {
		at := ways[path]
		all = append(all, impl.Item{Path: path, Kind: f.Inodes[at].Kind, Links: modelLinks(f.Inodes, at), Bytes: modelText(f, at), First: first[at]})
	}
	return all
}

// modelLines is the text of these items.
func modelLines(all []impl.Item) string {
	text := ""
	for _, x := range all {
		if x.Kind == impl.KindDir {
			text += fmt.Sprintf("%s dir %d\n", x.Path, x.Links)
			continue
		}
		told := ""
		for _, b := range x.Bytes {
			if b < 97 || b > 122 {
				b = 46
			}
			told += string(rune(b))
		}
		if told == "" {
			told = "-"
		}
		text += fmt.Sprintf("%s file %d %d %s\n", x.Path, x.Links, len(x.Bytes), told)
	}
	return text
}

// modelPathOf is the first path of a place by the model, and its code.
func modelPathOf(f impl.Fs, at int64) impl.TextResult {
	if at < 0 || at >= int64(len(f.Inodes)) {
		return impl.TextResult{Code: impl.ErrRange}
	}
	if at == 0 {
		return impl.TextResult{Text: "/"}
	}
	ways := modelWays(f)
	for _, path := range modelPaths(f) {
		if ways[path] == at {
			return impl.TextResult{Text: path}
		}
	}
	return impl.TextResult{Code: impl.ErrNone}
}

// checkListed holds all that chapter 11 tells of a whole file system against
// the model.
func checkListed(t *testing.T, what string, f impl.Fs) {
	t.Helper()
	all := modelItems(f)
	wantItems(t, what+": ItemsOf", impl.ItemsOf(f), all)
	checkItems(t, what, f)
	wantText(t, what+": TreeText", impl.TreeText(f), modelLines(all))
	for at := int64(-1); at < 12; at++ {
		if r := impl.PathOf(f, at); r != modelPathOf(f, at) {
			t.Errorf("%s: PathOf %d: %v, not %v", what, at, r, modelPathOf(f, at))
		}
	}
	sum := 0
	for _, at := range filesIn(f) {
		sum += len(modelText(f, at))
	}
	wantNumber(t, what+": SizeOf", impl.SizeOf(f), int64(sum))
	wantSameTrees(t, what+": itself", f, f, true)
}

// Three directories and a file: every way in which they can name each other.
func TestItemsOfEachGraph(t *testing.T) {
	whole := 0
	for set := range 1 << 12 {
		for links := int64(1); links < 4; links++ {
			f := tree(graph(set, links)...)
			if code := modelFault(f); code != impl.OK {
				wantNoList(t, fmt.Sprint(f), f, code)
				continue
			}
			whole++
			checkListed(t, fmt.Sprint(f), f)
		}
	}
	if whole != 21 {
		t.Errorf("%d of them are whole, not 21", whole)
	}
}

// tally is what file systems by dice had to have, for a test to say something.
type tally struct {
	several, apart, deepFirst, empty, bare, unnamed int
}

func (n *tally) add(f impl.Fs) {
	all := modelItems(f)
	depth := func(path string) int { return strings.Count(path, "/") }
	for i, x := range all {
		switch {
		case x.Kind == impl.KindDir && (i == len(all)-1 || !hasTop(all[i+1].Path, x.Path)):
			n.empty++
		case x.Kind == impl.KindFile && len(x.Bytes) == 0:
			n.bare++
		}
		if x.First == x.Path {
			continue
		}
		n.several++
		if x.Path[:strings.LastIndexByte(x.Path, '/')] != x.First[:strings.LastIndexByte(x.First, '/')] {
			n.apart++
		}
		if depth(x.First) > depth(x.Path) {
			n.deepFirst++
		}
	}
	for _, at := range thereIn(f) {
		if modelPathOf(f, at).Code == impl.ErrNone {
			n.unnamed++
		}
	}
}

func TestItemsAgainstModel(t *testing.T) {
	d := dice(21)
	var n tally
	for range 900 {
		for _, f := range []impl.Fs{shuffled(&d, diceTree(&d)), shuffled(&d, diceDeep(&d))} {
			what := fmt.Sprint(f)
			checkListed(t, what, f)
			n.add(f)
			diceFault(&d, &f)
			if code := modelFault(f); code != impl.OK {
				wantNoList(t, fmt.Sprint(f), f, code)
			}
		}
		if t.Failed() {
			t.FailNow()
		}
	}
	if min(n.several, n.apart, n.deepFirst, n.empty, n.bare, n.unnamed) < 50 {
		t.Errorf("too few of something: %+v", n)
	}
}

// Rows of calls: what is listed is what the model lists, call by call, and what
// is made is there and empty.
func TestItemsBehindCalls(t *testing.T) {
	d := dice(22)
	made := [12]int{}
	for row := range 120 {
		f := diceStart(&d)
		for range 30 {
			c := diceCall(&d, modelPaths(f))
			r := impl.DoCall(f, c, nil)
			what := fmt.Sprint("row ", row, ": ", c)
			checkListed(t, what, r.Fs)
			if r.Reply != impl.OK {
				wantSameTrees(t, what+" came to nothing", f, r.Fs, true)
			} else if c.Kind == impl.CallMake || c.Kind == impl.CallDir {
				made[c.Kind]++
				checkMade(t, what, f, r.Fs, c)
			}
			f = r.Fs
		}
		if t.Failed() {
			t.FailNow()
		}
	}
	if made[impl.CallMake] < 50 || made[impl.CallDir] < 50 {
		t.Errorf("too few were made: %v", made)
	}
}
