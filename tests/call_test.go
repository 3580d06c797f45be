package tests

import (
	"fmt"
	"slices"
	"strings"
	"testing"

	"loop.example/g00295/impl"
)

// The names, constants and signatures of chapter 10, as the document has them.
var (
	_ func(impl.Call) int64                             = impl.CallFault
	_ func(impl.Fs, impl.Call, []int64) impl.CallResult = impl.DoCall
	_ func(impl.Fs, string, string) impl.CallResult     = impl.RenamePath
	_ func(impl.Fs, string, string) impl.CallResult     = impl.LinkPath
	_ func(impl.Fs, []impl.Call) impl.CallResult        = impl.RunCalls
	_                                                   = impl.Call{Kind: int64(0), Path: "", To: "", From: int64(0), Size: int64(0), Data: []byte(nil)}
	_                                                   = impl.CallResult{Code: int64(0), Reply: int64(0), Value: int64(0), Bytes: []byte(nil), Names: []string(nil), Fs: impl.Fs{}}
	_                                                   = [1]int{}[impl.CallMake-1]
	_                                                   = [1]int{}[impl.CallDir-2]
	_                                                   = [1]int{}[impl.CallWrite-3]
	_                                                   = [1]int{}[impl.CallRead-4]
	_                                                   = [1]int{}[impl.CallCut-5]
	_                                                   = [1]int{}[impl.CallUnlink-6]
	_                                                   = [1]int{}[impl.CallRemove-7]
	_                                                   = [1]int{}[impl.CallLink-8]
	_                                                   = [1]int{}[impl.CallRename-9]
	_                                                   = [1]int{}[impl.CallStat-10]
	_                                                   = [1]int{}[impl.CallList-11]
)

func call(kind int64, path string) impl.Call {
	return impl.Call{Kind: kind, Path: path}
}

func write(path string, from int64, data string) impl.Call {
	return impl.Call{Kind: impl.CallWrite, Path: path, From: from, Data: []byte(data)}
}

func read(path string, from, size int64) impl.Call {
	return impl.Call{Kind: impl.CallRead, Path: path, From: from, Size: size}
}

func cut(path string, size int64) impl.Call {
	return impl.Call{Kind: impl.CallCut, Path: path, Size: size}
}

func link(path, to string) impl.Call {
	return impl.Call{Kind: impl.CallLink, Path: path, To: to}
}

func rename(path, to string) impl.Call {
	return impl.Call{Kind: impl.CallRename, Path: path, To: to}
}

// wantReply asks that a call comes to nothing, and that nothing changed.
func wantReply(t *testing.T, what string, f impl.Fs, c impl.Call, busy []int64, reply int64) {
	t.Helper()
	r := impl.DoCall(f, c, busy)
	if !same(r, impl.CallResult{Reply: reply, Fs: f}) {
		t.Errorf("%s: %v, busy %v: %v, not reply %d and %v", what, c, busy, r, reply, f)
	}
	checkDone(t, what, f, busy, r)
}

// wantDone asks that a call is done, and gives the file system then. The rest
// of want is what it answers beside it.
func wantDone(t *testing.T, what string, f impl.Fs, c impl.Call, busy []int64, want impl.CallResult) impl.Fs {
	t.Helper()
	r := impl.DoCall(f, c, busy)
	want.Fs = r.Fs
	if !same(r, want) {
		t.Fatalf("%s: %v, busy %v: %v, not %v", what, c, busy, r, want)
	}
	checkDone(t, what, f, busy, r)
	return r.Fs
}

// wantTold is a call that changes nothing and answers this.
func wantTold(t *testing.T, what string, f impl.Fs, c impl.Call, want impl.CallResult) {
	t.Helper()
	if after := wantDone(t, what, f, c, nil, want); !same(after, f) {
		t.Errorf("%s: %v turned %v into %v", what, c, f, after)
	}
}

// One file system, from a new one on, call by call; all that comes of it is
// written by hand.
func TestCallsByHand(t *testing.T) {
	f := impl.NewFs(nil).Fs
	step := func(c impl.Call, want impl.CallResult, after ...impl.Inode) {
		t.Helper()
		f = wantDone(t, "by hand", f, c, nil, want)
		if !same(f.Inodes, after) {
			t.Fatalf("%v: %v, not %v", c, f.Inodes, after)
		}
	}
	one, none := impl.CallResult{Value: 1}, impl.CallResult{}
	step(call(impl.CallDir, "/d"), one, dir(entry("d", 1)), dir())
	step(call(impl.CallMake, "/d/a"), impl.CallResult{Value: 2}, dir(entry("d", 1)), dir(entry("a", 2)), file(1, 0))
	step(write("/d/a", 0, "hello"), impl.CallResult{Value: 5}, dir(entry("d", 1)), dir(entry("a", 2)), file(1, 5, 0))
	step(link("/d/a", "/b"), none, dir(entry("b", 2), entry("d", 1)), dir(entry("a", 2)), file(2, 5, 0))
	step(write("/b", 7, "ho"), impl.CallResult{Value: 9}, dir(entry("b", 2), entry("d", 1)), dir(entry("a", 2)), file(2, 9, 1, 2))
	step(read("/d/a", 3, 5), impl.CallResult{Value: 5, Bytes: []byte("lo\x00\x00h")}, dir(entry("b", 2), entry("d", 1)), dir(entry("a", 2)), file(2, 9, 1, 2))
	step(call(impl.CallUnlink, "/d/a"), none, dir(entry("b", 2), entry("d", 1)), dir(), file(1, 9, 1, 2))
	step(rename("/b", "/d/c"), none, dir(entry("d", 1)), dir(entry("c", 2)), file(1, 9, 1, 2))
	step(call(impl.CallMake, "/a"), impl.CallResult{Value: 3}, dir(entry("a", 3), entry("d", 1)), dir(entry("c", 2)), file(1, 9, 1, 2), file(1, 0))
	step(cut("/d/c", 3), impl.CallResult{Value: 3}, dir(entry("a", 3), entry("d", 1)), dir(entry("c", 2)), file(1, 3, 0), file(1, 0))
	step(call(impl.CallStat, "/d/c"), impl.CallResult{Value: 1103}, dir(entry("a", 3), entry("d", 1)), dir(entry("c", 2)), file(1, 3, 0), file(1, 0))
	step(rename("/d/c", "/a"), none, dir(entry("a", 2), entry("d", 1)), dir(), file(1, 3, 0), kind(0))
	step(call(impl.CallList, "/"), impl.CallResult{Names: names("a", "d")}, dir(entry("a", 2), entry("d", 1)), dir(), file(1, 3, 0), kind(0))
	step(call(impl.CallRemove, "/d"), none, dir(entry("a", 2)), kind(0), file(1, 3, 0), kind(0))
	step(call(impl.CallDir, "/x"), one, dir(entry("a", 2), entry("x", 1)), dir(), file(1, 3, 0), kind(0))
	step(rename("/a", "/x/y"), none, dir(entry("x", 1)), dir(entry("y", 2)), file(1, 3, 0), kind(0))
	step(call(impl.CallUnlink, "/x/y"), none, dir(entry("x", 1)), dir(), kind(0), kind(0))
	step(call(impl.CallRemove, "/x"), none, dir(), kind(0), kind(0), kind(0))
	step(call(impl.CallList, "/"), none, dir(), kind(0), kind(0), kind(0))
}

// The document's example.
func TestExampleOfCalls(t *testing.T) {
	f := impl.RunCalls(impl.NewFs(nil).Fs, []impl.Call{call(impl.CallMake, "/a"), write("/a", 0, "hello"), rename("/a", "/b")}).Fs
	wantTold(t, "the example", f, read("/b", 0, 100), impl.CallResult{Value: 5, Bytes: []byte("hello")})
	wantReply(t, "the example", f, read("/a", 0, 100), nil, impl.ErrNone)
}

// makers are the two kinds that make something, and what they make.
func makers() map[int64]impl.Inode {
	return map[int64]impl.Inode{impl.CallMake: file(1, 0), impl.CallDir: dir()}
}

// What is made stands at the first place that is free, or behind the last one,
// and nothing else turns.
func TestWhatIsMade(t *testing.T) {
	for _, c := range fileTrees() {
		place := slices.IndexFunc(c.fs.Inodes, func(x impl.Inode) bool { return x.Kind == impl.KindFree })
		if place < 0 {
			place = len(c.fs.Inodes)
		}
		for _, path := range append(names(""), modelPaths(c.fs)...) {
			at := modelWays(c.fs)[path]
			if c.fs.Inodes[at].Kind != impl.KindDir || len(c.fs.Inodes[at].Entries) == 6 || strings.Count(path, "/") == 6 {
				continue
			}
			for _, name := range freshNames(c.fs.Inodes[at]) {
				for made, x := range makers() {
					if place == 10 {
						wantReply(t, c.what, c.fs, call(made, path+"/"+name), nil, impl.ErrFull)
						continue
					}
					after := wantDone(t, c.what, c.fs, call(made, path+"/"+name), nil, impl.CallResult{Value: int64(place)})
					want := impl.Fs{Inodes: slices.Clone(c.fs.Inodes), Data: c.fs.Data}
					if place == len(want.Inodes) {
						want.Inodes = append(want.Inodes, kind(0))
					}
					leads := leadsOf(want.Inodes[at])
					leads[name] = int64(place)
					want.Inodes[at].Entries = entriesOf(leads)
					want.Inodes[place] = x
					if !same(after, want) {
						t.Errorf("%s: made %s: %v, not %v", c.what, path+"/"+name, after, want)
					}
				}
			}
		}
	}
}

func TestWhatIsNotMade(t *testing.T) {
	six := tree(dir(entry("a", 1), entry("f", 2)), dir(entry("a", 2), entry("b", 2), entry("c", 2), entry("d", 2), entry("e", 2), entry("f", 2)), file(7, 9, 3, 4))
	wide := tree(append(inodes(dir(sixEntries()...), dir(entry("x", 7), entry("y", 8), entry("z", 9))), tenFiles()[:8]...)...)
	five := tree(dir(entry("a", 1), entry("b", 2), entry("c", 3), entry("d", 4), entry("e", 5)), file(1, 0), dir(), file(1, 0), dir(), file(1, 0))
	for made := range makers() {
		for path, reply := range map[string]int64{
			"/a":     impl.ErrTaken, // a directory
			"/f":     impl.ErrTaken, // a file
			"/a/a":   impl.ErrTaken, // also where there are MaxEntries
			"/a/f":   impl.ErrTaken,
			"/a/g":   impl.ErrMany,
			"/a/aa":  impl.ErrMany,
			"/f/x":   impl.ErrDir, // the parent is a file
			"/a/b/x": impl.ErrDir,
			"/f/x/y": impl.ErrDir, // the way to it breaks off there
			"/q/x":   impl.ErrNone,
			"/a/q/x": impl.ErrNone,
			"/":      impl.ErrNone,
			"":       impl.ErrText,
			"/A":     impl.ErrText,
			"/g/":    impl.ErrText,
			"/abcde": impl.ErrMany,
		} {
			wantReply(t, "not made", six, call(made, path), nil, reply)
		}
		wantReply(t, "no inode is free", wide, call(made, "/a/q"), nil, impl.ErrFull)
		wantReply(t, "no inode is free, and MaxEntries", wide, call(made, "/q"), nil, impl.ErrMany)
		wantReply(t, "no inode is free, and it is there", wide, call(made, "/a/x"), nil, impl.ErrTaken)
		f := wantDone(t, "the last of MaxEntries", five, call(made, "/f"), nil, impl.CallResult{Value: 6})
		wantReply(t, "one more", f, call(made, "/g"), nil, impl.ErrMany)
	}
}

// A file system is filled up to MaxInodes, and again where one went.
func TestMadeUpToMaxInodes(t *testing.T) {
	f := impl.NewFs(nil).Fs
	for i, path := range names("/a", "/b", "/c", "/d", "/e", "/a/a", "/a/b", "/b/a", "/b/b") {
		made := list(impl.CallDir, impl.CallMake)[min(i/2, 1)]
		f = wantDone(t, "filled", f, call(made, path), nil, impl.CallResult{Value: int64(i) + 1})
	}
	for made := range makers() {
		wantReply(t, "full", f, call(made, "/a/c"), nil, impl.ErrFull)
		for gone, at := range map[string]int64{"/c": 3, "/a/b": 7, "/b/b": 9, "/e": 5} {
			g := wantDone(t, "one goes", f, call(impl.CallUnlink, gone), nil, impl.CallResult{})
			g = wantDone(t, "one comes", g, call(made, "/a/x"), nil, impl.CallResult{Value: at})
			wantReply(t, "full again", g, call(made, "/f"), nil, impl.ErrFull)
		}
	}
}

// removeTree has files and directories, with entries and without.
func removeTree() impl.Fs {
	return tree(dir(entry("a", 1), entry("b", 2), entry("c", 3), entry("f", 4)), dir(entry("d", 5), entry("f", 6)), dir(), dir(entry("f", 4)), file(2, 9, 3, 4), dir(), file(1, 20, 0, 7, 5))
}

func TestWhatIsUnlinked(t *testing.T) {
	f := removeTree()
	for path, reply := range map[string]int64{
		"/a": impl.ErrDir, "/b": impl.ErrDir, "/a/d": impl.ErrDir,
		"/q": impl.ErrNone, "/a/q": impl.ErrNone, "/b/f": impl.ErrNone, "/q/f": impl.ErrNone, "/": impl.ErrNone,
		"/f/f": impl.ErrDir, "/a/f/f": impl.ErrDir,
		"": impl.ErrText, "/F": impl.ErrText, "/abcde": impl.ErrMany,
	} {
		wantReply(t, "not unlinked", f, call(impl.CallUnlink, path), nil, reply)
	}
	for path, gone := range map[string]int64{"/a/f": 6, "/f": 0, "/c/f": 0} {
		want := impl.DropName(f, impl.WalkParent(f, path).Value, "f").Fs
		after := wantDone(t, "unlinked", f, call(impl.CallUnlink, path), nil, impl.CallResult{})
		if !same(after, want) || (gone != 0) != same(after.Inodes[6], kind(0)) {
			t.Errorf("%s: %v, not %v", path, after, want)
		}
		wantReply(t, "unlinked again", after, call(impl.CallUnlink, path), nil, impl.ErrNone)
	}
	bare := tree(dir(entry("f", 1)), file(1, 9, 3, 4))
	if after := wantDone(t, "the last one", bare, call(impl.CallUnlink, "/f"), nil, impl.CallResult{}); !same(after, tree(dir(), kind(0))) {
		t.Error(after)
	}
}

func TestWhatIsRemoved(t *testing.T) {
	f := removeTree()
	for path, reply := range map[string]int64{
		"/f": impl.ErrForm, "/a/f": impl.ErrForm, "/c/f": impl.ErrForm,
		"/a": impl.ErrFull, "/c": impl.ErrFull,
		"/q": impl.ErrNone, "/a/q": impl.ErrNone, "/b/d": impl.ErrNone, "/q/d": impl.ErrNone, "/": impl.ErrNone,
		"/f/d": impl.ErrDir, "/a/f/d": impl.ErrDir,
		"": impl.ErrText, "/B": impl.ErrText, "/abcde": impl.ErrMany,
	} {
		wantReply(t, "not removed", f, call(impl.CallRemove, path), nil, reply)
	}
	for path, at := range map[string]int64{"/b": 2, "/a/d": 5} {
		want := modelOf(f)
		want.drop(impl.WalkParent(f, path).Value, lastName(path))
		after := wantDone(t, "removed", f, call(impl.CallRemove, path), nil, impl.CallResult{})
		if !same(after, want.fs()) || !same(after.Inodes[at], kind(0)) {
			t.Errorf("%s: %v, not %v", path, after, want.fs())
		}
		wantReply(t, "removed again", after, call(impl.CallRemove, path), nil, impl.ErrNone)
	}
	g := impl.RunCalls(f, []impl.Call{call(impl.CallUnlink, "/a/f"), call(impl.CallRemove, "/a/d")}).Fs
	g = wantDone(t, "emptied first", g, call(impl.CallRemove, "/a"), nil, impl.CallResult{})
	wantTold(t, "emptied first", g, call(impl.CallList, "/"), impl.CallResult{Names: names("b", "c", "f")})
	wantReply(t, "the top alone", impl.NewFs(nil).Fs, call(impl.CallRemove, "/"), nil, impl.ErrNone)
}

// Written, read and cut by a path is what chapter 7 does at its inode; From and
// Size at their bounds.
func TestFilesByPath(t *testing.T) {
	for _, c := range sizedTrees() {
		for _, path := range modelPaths(c.fs) {
			at, _ := modelWalk(c.fs, path)
			if c.fs.Inodes[at].Kind == impl.KindDir {
				continue
			}
			size := c.fs.Inodes[at].Size
			for _, busy := range [][]int64{nil, c.fs.Inodes[at].Blocks, list(1, 2, 4)} {
				for from := range int64(33) {
					for _, n := range list(0, min(1, 32-from), 32-from) {
						data := string(freshText(n))
						want := impl.WriteFile(c.fs, at, from, []byte(data), busy)
						value := max(size, from+n)
						if n == 0 {
							value = size
						}
						after := wantDone(t, c.what, c.fs, write(path, from, data), busy, impl.CallResult{Value: value})
						wantFs(t, fmt.Sprint(c.what, ": written from ", from, ", ", n), want, after)
					}
					want := impl.CutFile(c.fs, at, from, busy)
					after := wantDone(t, c.what, c.fs, cut(path, from), busy, impl.CallResult{Value: from})
					wantFs(t, fmt.Sprint(c.what, ": cut to ", from), want, after)
				}
			}
			text := textOf(int(at), size)
			for _, from := range list(0, 1, 8, 31, 32, 33, 1000) {
				for _, n := range list(0, 1, 8, 9, 32, 33, 100) {
					part := text[min(from, size):min(from+n, size)]
					wantTold(t, c.what, c.fs, read(path, from, n), impl.CallResult{Value: int64(len(part)), Bytes: part})
				}
			}
			checkFileBounds(t, c.what, c.fs, path)
		}
	}
}

// checkFileBounds asks for the replies of chapter 7 just beyond each bound.
func checkFileBounds(t *testing.T, what string, f impl.Fs, path string) {
	t.Helper()
	for _, far := range list(-1<<63, -1, 1001, 1<<63-1) {
		wantReply(t, what, f, read(path, far, 0), nil, impl.ErrRange)
		wantReply(t, what, f, write(path, far, ""), nil, impl.ErrRange)
		wantReply(t, what, f, write(path, far, string(freshText(40))), nil, impl.ErrRange)
	}
	for _, far := range list(-1<<63, -1, 101, 1<<63-1) {
		wantReply(t, what, f, read(path, 0, far), nil, impl.ErrRange)
		wantReply(t, what, f, read(path, 1000, far), nil, impl.ErrRange)
	}
	for _, far := range list(-1<<63, -1, 33, 40, 1<<63-1) {
		wantReply(t, what, f, cut(path, far), nil, impl.ErrRange)
	}
	for from := range int64(34) {
		wantReply(t, what, f, write(path, from, string(freshText(33-from))), nil, impl.ErrMany)
	}
	wantReply(t, what, f, write(path, 1000, ""), nil, impl.ErrMany)
	wantReply(t, what, f, write(path, 0, string(freshText(40))), nil, impl.ErrMany)
}

// Where there is no room nothing is written: of no file at all, of a few
// blocks, and of busy ones alone.
func TestNoRoomByPath(t *testing.T) {
	full := tree(append(inodes(dir(entry("a", 1), entry("b", 2), entry("c", 3), entry("d", 4), entry("e", 5))), oneLink(fiveFiles())...)...)
	full = impl.DoCall(full, call(impl.CallMake, "/f"), nil).Fs
	for _, path := range names("/a", "/c", "/f") {
		wantReply(t, "no block is free", full, write(path, 0, "x"), nil, impl.ErrFull)
		wantReply(t, "no block is free", full, cut(path, 1), nil, impl.ErrFull)
		wantReply(t, "no block is free", full, cut(path, 32), nil, impl.ErrFull)
		wantDone(t, "nothing needs no block", full, cut(path, 0), upTo(20), impl.CallResult{})
		wantDone(t, "nothing is written", full, write(path, 3, ""), upTo(20), impl.CallResult{Value: impl.StatOf(full, path).Size})
	}
	f := tree(dir(entry("a", 1), entry("b", 2)), file(1, 9, 3, 4), file(1, 0))
	for n := range 5 {
		free := list(6, 0, 19, 11)[:n]
		busy := without(free...)
		slices.Sort(free)
		for size := int64(1); size < 33; size++ {
			need := int((size + 7) / 8)
			for _, c := range []impl.Call{write("/b", 0, string(freshText(size))), write("/b", size-1, "x"), cut("/b", size)} {
				if need > n {
					wantReply(t, "room in busy blocks alone", f, c, busy, impl.ErrFull)
					continue
				}
				after := wantDone(t, "just room", f, c, busy, impl.CallResult{Value: size})
				wantWords(t, "just room", impl.IntsResult{List: after.Inodes[2].Blocks}, free[:need])
			}
		}
	}
	for _, c := range []impl.Call{write("/a", 0, "x"), write("/a", 8, "x"), cut("/a", 1), cut("/a", 9)} {
		wantReply(t, "its own blocks are no room", f, c, without(3, 4), impl.ErrFull)
	}
}

// No byte of a busy block turns, whatever the calls are: the file system that
// was kept can be had again.
func TestBusyBlocksByPath(t *testing.T) {
	kept := tree(dir(entry("a", 1), entry("b", 2), entry("c", 3)), file(1, 17, 4, 0, 9), file(1, 8, 1), dir(entry("d", 4)), file(1, 12, 7, 2))
	busy, _ := modelUsed(kept.Inodes)
	live := kept
	for i, c := range []impl.Call{
		write("/a", 3, "new"), write("/a", 0, "newer"), call(impl.CallUnlink, "/b"), call(impl.CallMake, "/e"), write("/e", 0, string(freshText(32))),
		cut("/c/d", 3), rename("/e", "/a"), cut("/a", 9), rename("/c/d", "/x"), call(impl.CallRemove, "/c"), link("/x", "/y"), write("/y", 30, "z"), write("/a", 31, "z"),
	} {
		r := checkAct(t, fmt.Sprint("call ", i), live, c, busy)
		wantCode(t, fmt.Sprint(c), r.Reply, impl.OK)
		live = r.Fs
		for _, block := range busy {
			of := slices.ContainsFunc(live.Inodes, func(x impl.Inode) bool { return slices.Contains(x.Blocks, block) })
			if of && !same(live.Data[block], kept.Data[block]) {
				t.Errorf("%v: block %d had %q, and has %q", c, block, kept.Data[block], live.Data[block])
			}
		}
	}
}

func TestPathsToFiles(t *testing.T) {
	f := removeTree()
	for _, path := range names("/", "/a", "/b", "/a/d") {
		for _, c := range []impl.Call{write(path, 0, "x"), write(path, 0, ""), write(path, 1001, string(freshText(40))), read(path, 0, 1), read(path, -1, 101), cut(path, 0), cut(path, 33)} {
			wantReply(t, "a directory", f, c, nil, impl.ErrDir)
		}
	}
	for path, reply := range map[string]int64{"/q": impl.ErrNone, "/q/f": impl.ErrNone, "/a/q": impl.ErrNone, "/f/q": impl.ErrDir, "/a/f/f": impl.ErrDir, "": impl.ErrText, "f": impl.ErrText, "/f/": impl.ErrText,
		"/abcde": impl.ErrMany, "/a/a/a/a/a/a/a": impl.ErrMany, full6() + "y": impl.ErrMany} {
		for _, c := range []impl.Call{write(path, 0, "x"), write(path, 1001, string(freshText(40))), read(path, -1, 101), cut(path, 33), call(impl.CallStat, path), call(impl.CallList, path)} {
			wantReply(t, "no such path", f, c, nil, reply)
		}
	}
}

func TestStatsAndLists(t *testing.T) {
	six := tree(dir(entry("a", 1), entry("f", 2)), dir(entry("a", 2), entry("b", 2), entry("c", 2), entry("d", 2), entry("e", 2), entry("zzzz", 3)), file(6, 32, 3, 4, 9, 0), dir())
	for path, value := range map[string]int64{"/": 2102, "/a": 2106, "/f": 1632, "/a/a": 1632, "/a/e": 1632, "/a/zzzz": 2100} {
		wantTold(t, "stat", six, call(impl.CallStat, path), impl.CallResult{Value: value})
	}
	for path, told := range map[string][]string{"/": names("a", "f"), "/a": names("a", "b", "c", "d", "e", "zzzz"), "/a/zzzz": nil} {
		wantTold(t, "list", six, call(impl.CallList, path), impl.CallResult{Names: told})
	}
	for _, path := range names("/f", "/a/a", "/a/e") {
		wantReply(t, "list of a file", six, call(impl.CallList, path), nil, impl.ErrDir)
	}
	most := mostPaths().fs
	wantTold(t, "many links", most, call(impl.CallStat, "/b/c"), impl.CallResult{Value: 1000 + 4600 + 17})
	for _, c := range fileTrees() {
		for _, path := range append(names("/"), modelPaths(c.fs)...) {
			at, _ := modelWalk(c.fs, path)
			x := c.fs.Inodes[at]
			if x.Kind == impl.KindFile {
				wantTold(t, c.what, c.fs, call(impl.CallStat, path), impl.CallResult{Value: 1000 + x.Links*100 + x.Size})
				wantReply(t, c.what, c.fs, call(impl.CallList, path), nil, impl.ErrDir)
				continue
			}
			wantTold(t, c.what, c.fs, call(impl.CallStat, path), impl.CallResult{Value: 2100 + int64(len(x.Entries))})
			wantTold(t, c.what, c.fs, call(impl.CallList, path), impl.CallResult{Names: namesOf(x)})
		}
	}
}
