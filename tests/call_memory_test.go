package tests

import (
	"math"
	"slices"
	"strings"
	"testing"

	"loop.example/g00295/impl"
)

// memoryCalls is calls of all kinds at these paths, each with memory of its
// own, and such as have a fault.
func memoryCalls(paths []string) []impl.Call {
	var all []impl.Call
	long := freshText(60)
	for i, path := range paths {
		path = strings.Clone(path)
		for number := int64(0); number < 13; number++ {
			all = append(all, impl.Call{Kind: number, Path: path})
		}
		to := strings.Clone(paths[(i+1)%len(paths)])
		all = append(all, link(path, path), link(path, to), rename(path, path), rename(path, to), read(path, 1, 100), read(path, -1, 0), cut(path, 9), cut(path, 33),
			impl.Call{Kind: impl.CallWrite, Path: path, Data: long[:0]}, impl.Call{Kind: impl.CallWrite, Path: path, From: 3, Data: long[5:12]},
			impl.Call{Kind: impl.CallWrite, Path: path, Data: long[:40]}, impl.Call{Kind: impl.CallWrite, Path: path, Data: long[:41]},
			impl.Call{Kind: impl.CallMake, Path: path, Data: []byte{}}, impl.Call{Kind: impl.CallMake, Path: path, To: to})
	}
	return all
}

// checkCalls asks all functions of chapter 10 for promise 1.
func checkCalls(t *testing.T, f impl.Fs, calls []impl.Call, busy [][]int64) {
	t.Helper()
	for i, c := range calls {
		checkCall(t, "CallFault", impl.CallFault, c)
		checkCall(t, "DoCall", impl.DoCall, f, c, busy[i%len(busy)])
		if c.To != "" {
			checkCall(t, "RenamePath", impl.RenamePath, f, c.Path, c.To)
			checkCall(t, "LinkPath", impl.LinkPath, f, c.Path, c.To)
		}
	}
	sound := slices.DeleteFunc(slices.Clone(calls), func(c impl.Call) bool { return impl.CallFault(c) != impl.OK })
	for _, list := range [][]impl.Call{nil, {}, calls[:0], calls[:min(3, len(calls))], sound[:min(20, len(sound))], sound[len(sound)/2:][:min(60, len(sound)/2)], calls} {
		checkCall(t, "RunCalls", impl.RunCalls, f, list)
	}
}

// File systems whose lists have room behind their ends, share memory, are nil,
// or have faults.
func TestCallsPromiseOne(t *testing.T) {
	room := append(upTo(20), 20, -1)
	busy := [][]int64{nil, {}, room[:0], room[:3], room[5:19], room[:20], room[:21], room[19:]}
	paths := names("/", "/a", "/b", "/a/b", "/c", "/q", "", "/A", "/abcde")
	for i, f := range memoryTrees() {
		checkCalls(t, f, memoryCalls(paths), busy)
		if t.Failed() {
			t.Fatal("at file system ", i)
		}
	}
	for _, c := range walkTrees() {
		few := append(slices.Clone(c.paths[:min(6, len(c.paths))]), "/q", "/")
		checkCalls(t, c.fs, memoryCalls(few), busy[:2])
		if t.Failed() {
			t.Fatal("at ", c.what)
		}
	}
}

// Texts that are paths, and such as are not, the longest among them.
func TestCallsOfAllTexts(t *testing.T) {
	f := tree(dir(entry("a", 1), entry("b", 2)), file(1, 9, 3, 4), dir())
	for _, text := range memoryTexts() {
		for number := int64(1); number < 12; number++ {
			checkCall(t, "DoCall", impl.DoCall, f, call(number, text), list(0))
		}
		for _, other := range names("/a", "/b", "/z", "/b/z", "", "/A") {
			checkCall(t, "RenamePath", impl.RenamePath, f, text, other)
			checkCall(t, "RenamePath", impl.RenamePath, f, other, text)
			checkCall(t, "LinkPath", impl.LinkPath, f, text, other)
			checkCall(t, "LinkPath", impl.LinkPath, f, other, text)
		}
		checkCall(t, "CallFault", impl.CallFault, rename(text, text))
		checkCall(t, "RunCalls", impl.RunCalls, f, []impl.Call{call(impl.CallMake, text), rename("/a", text), link(text, "/z")})
	}
}

// The paths and Data of a call are pieces of what the file system has, and so
// are the busy blocks.
func TestCallsThatShare(t *testing.T) {
	text := strings.Clone("/abcd/efgh/ab")
	f := tree(dir(entry(text[1:5], 1)), dir(entry(text[11:13], 2), entry(text[6:10], 3)), file(1, 9, 3, 4), dir())
	paths := names(text[:1], text[:5], text[:10], text[:13], text[:5]+text[10:13], text[10:13])
	busy := [][]int64{f.Inodes[2].Blocks, f.Inodes[2].Blocks[:1]}
	calls := memoryCalls(paths)
	for i := range calls {
		calls[i].Path = paths[i%len(paths)]
		if calls[i].To != "" {
			calls[i].To = paths[i/3%len(paths)]
		}
		if len(calls[i].Data) > 0 {
			calls[i].Data = f.Data[3]
		}
	}
	checkCalls(t, f, calls, busy)
	after := wantDone(t, "its own first block", f, impl.Call{Kind: impl.CallWrite, Path: paths[4], From: 1, Data: f.Data[3]}, busy[0], impl.CallResult{Value: 9})
	wantFileText(t, "its own first block", after, paths[4], "k"+"klmnopqr")
	after = wantDone(t, "a piece of a name", f, rename(text[:5]+text[10:13], text[10:13]), nil, impl.CallResult{})
	wantTold(t, "a piece of a name", after, call(impl.CallList, "/"), impl.CallResult{Names: names("ab", "abcd")})
}

// Entries, inodes and calls have room behind their ends, and what stands there
// is neither seen nor turned.
func TestCallsDoNotSeeRoom(t *testing.T) {
	fresh := func() impl.Fs {
		entries := []impl.Entry{entry("b", 1), entry("d", 2), entry("f", 3), entry("h", 4)}
		f := tree(dir(entries[:2]...), file(1, 9, 3, 4), dir(), file(1, 0), dir(), kind(3))
		f.Inodes = f.Inodes[:3]
		return f
	}
	f := fresh()
	calls := memoryCalls(names("/a", "/b", "/c", "/d", "/f", "/h", "/d/a"))
	checkCalls(t, f, calls, [][]int64{nil, upTo(20)[:3]})
	wantReply(t, "a name in the room", f, call(impl.CallStat, "/f"), nil, impl.ErrNone)
	for made, x := range makers() {
		after := wantDone(t, "made", f, call(made, "/f"), nil, impl.CallResult{Value: 3})
		if !same(after.Inodes, append(inodes(dir(entry("b", 1), entry("d", 2), entry("f", 3)), file(1, 9, 3, 4), dir()), x)) {
			t.Errorf("made: %v", after)
		}
	}
	checkRun(t, "room behind calls", f, []impl.Call{call(impl.CallMake, "/a"), call(99, "/")}[:1], nil)
	if !same(f, fresh()) || !same(f.Inodes[:6], fresh().Inodes[:6]) || !same(f.Inodes[0].Entries[:4], fresh().Inodes[0].Entries[:4]) {
		t.Errorf("the argument is %v", f)
	}
}

func TestCallsAtFarArguments(t *testing.T) {
	far := list(math.MinInt64, math.MinInt64+1, -1<<62, -1<<32, -1, 0, 1<<31, 1<<32, 1<<32+1, 1<<62, math.MaxInt64-40, math.MaxInt64)
	f := tree(dir(entry("a", 1), entry("b", 2)), file(1, 9, 3, 4), dir())
	var calls []impl.Call
	for _, n := range far {
		calls = append(calls, call(n, "/a"), read("/a", n, 1), read("/a", 1, n), read("/a", n, n), cut("/a", n), write("/a", n, ""), write("/a", n, "xy"), write("/a", n, string(freshText(40))),
			impl.Call{Kind: n, Path: "/a", To: "/b", From: n, Size: n, Data: []byte("x")})
	}
	calls = append(calls, impl.Call{}, impl.Call{Kind: impl.CallWrite, Path: "/a", Data: make([]byte, 100000)}, call(impl.CallMake, strings.Repeat("/a", 50000)), rename("/a", strings.Repeat("a", 100000)))
	checkCalls(t, f, calls, [][]int64{nil, far, list(math.MaxInt64), fill(100000, 1)})
	for _, g := range []impl.Fs{{}, {Inodes: inodes(), Data: [][]byte{}}, {Inodes: inodes(impl.Inode{Kind: impl.KindDir, Blocks: []int64{}, Entries: []impl.Entry{}}), Data: emptyData(20)}} {
		checkCalls(t, g, append(calls, memoryCalls(names("/", "/a", ""))...), [][]int64{nil, {}})
	}
	checkCall(t, "RunCalls", impl.RunCalls, f, slices.Repeat([]impl.Call{call(impl.CallMake, "/x")}, 10000))
}

// What is done with one answer is not seen in the next one, nor in what it was
// made of.
func TestCallsByTurns(t *testing.T) {
	fresh := func() impl.Fs {
		return tree(dir(entry("a", 1), entry("c", 2), entry("e", 1)), file(2, 9, 3, 4), dir(entry("x", 3)), file(1, 2, 7))
	}
	f := fresh()
	calls := []impl.Call{call(impl.CallMake, "/b"), call(impl.CallDir, "/c/d"), write("/a", 7, "new"), read("/a", 1, 3), cut("/e", 10), call(impl.CallUnlink, "/c/x"), call(impl.CallRemove, "/c"),
		link("/a", "/c/a"), rename("/c/x", "/a"), rename("/a", "/e"), call(impl.CallStat, "/"), call(impl.CallList, "/")}
	for range 2 {
		answers := []impl.CallResult{impl.RunCalls(f, calls), impl.RunCalls(f, nil)}
		for _, c := range calls {
			answers = append(answers, checkAct(t, "by turns", f, c, list(0)))
		}
		for _, r := range answers {
			for at, held := range r.Fs.Data {
				for i := range held {
					held[i]++
				}
				r.Fs.Data[at] = append(held, 'x')
			}
			for at, x := range r.Fs.Inodes {
				for i := range x.Entries {
					x.Entries[i] = entry("zz", 5)
				}
				for i := range x.Blocks {
					x.Blocks[i] = 19
				}
				_ = append(x.Entries, entry("zzz", 6))
				r.Fs.Inodes[at] = kind(0)
			}
			for i := range r.Bytes {
				r.Bytes[i]++
			}
			for i := range r.Names {
				r.Names[i] = "zz"
			}
		}
		if !same(f, fresh()) {
			t.Error(f)
		}
	}
}
