package tests

import (
	"bytes"
	"fmt"
	"maps"
	"slices"
	"strings"
	"testing"

	"loop.example/g00295/impl"
)

// modelFs is a file system kept by hand: which name of which directory leads
// where, and of each file its text and the blocks that it is in. Links and
// bytes of blocks are not kept: they come of these.
type modelFs struct {
	places int64
	dirs   shelf
	texts  map[int64][]byte
	blocks map[int64][]int64
}

func modelOf(f impl.Fs) *modelFs {
	m := &modelFs{int64(len(f.Inodes)), shelf{}, map[int64][]byte{}, map[int64][]int64{}}
	for _, in := range dirsIn(f) {
		m.dirs[in] = leadsOf(f.Inodes[in])
	}
	for _, at := range filesIn(f) {
		m.texts[at], m.blocks[at] = modelText(f, at), slices.Clone(f.Inodes[at].Blocks)
	}
	return m
}

func (m *modelFs) fs() impl.Fs {
	f := impl.Fs{Inodes: make([]impl.Inode, m.places), Data: make([][]byte, 20)}
	for in, leads := range m.dirs {
		f.Inodes[in] = dir(entriesOf(leads)...)
	}
	for at, text := range m.texts {
		f.Inodes[at] = file(m.dirs.leadTo(at), int64(len(text)), m.blocks[at]...)
		for number, block := range m.blocks[at] {
			f.Data[block] = piece(text, number)
		}
	}
	return f
}

func (m *modelFs) isDir(at int64) bool {
	_, is := m.dirs[at]
	return is
}

func (m *modelFs) isFile(at int64) bool {
	_, is := m.texts[at]
	return is
}

// freePlace is the first place of nothing, or 10.
func (m *modelFs) freePlace() int64 {
	at := int64(0)
	for m.isDir(at) || m.isFile(at) {
		at++
	}
	return at
}

// drop takes a name away, and what it led to where no other name does.
func (m *modelFs) drop(in int64, name string) {
	at := m.dirs[in][name]
	delete(m.dirs[in], name)
	if m.dirs.leadTo(at) == 0 {
		delete(m.dirs, at)
		delete(m.texts, at)
		delete(m.blocks, at)
	}
}

// namer is the directory that names another one.
func (m *modelFs) namer(at int64) int64 {
	for in, leads := range m.dirs {
		for _, to := range leads {
			if to == at {
				return in
			}
		}
	}
	return 0
}

// above tells whether a directory is another one, or is above it: it climbs
// from that one to the top.
func (m *modelFs) above(at, low int64) bool {
	for low != at && low != 0 {
		low = m.namer(low)
	}
	return low == at
}

func lastName(path string) string {
	return path[strings.LastIndexByte(path, '/')+1:]
}

// do is chapter 10 told another way. Only a call whose reply is OK turns the
// model; the file system is not in the answer.
func (m *modelFs) do(c impl.Call, busy []int64) impl.CallResult {
	f := m.fs()
	at, end := modelWalk(f, c.Path)
	in, parent := modelParent(f, c.Path)
	switch c.Kind {
	case impl.CallMake, impl.CallDir:
		if parent != impl.OK {
			return impl.CallResult{Reply: parent}
		}
		return m.create(c, in)
	case impl.CallWrite, impl.CallRead, impl.CallCut:
		if code := firstCode(end, codeIf(m.isDir(at), impl.ErrDir)); code != impl.OK {
			return impl.CallResult{Reply: code}
		}
		return m.work(c, at, busy)
	case impl.CallUnlink, impl.CallRemove:
		if parent != impl.OK {
			return impl.CallResult{Reply: parent}
		}
		return m.discard(c, in)
	case impl.CallLink:
		return impl.CallResult{Reply: m.link(f, c, at, firstCode(end, codeIf(m.isDir(at), impl.ErrDir)))}
	case impl.CallRename:
		return impl.CallResult{Reply: m.rename(f, c, in, parent)}
	}
	if end != impl.OK || c.Kind == impl.CallList && !m.isDir(at) {
		return impl.CallResult{Reply: firstCode(end, impl.ErrDir)}
	}
	if c.Kind == impl.CallList {
		return impl.CallResult{Names: slices.Sorted(maps.Keys(m.dirs[at]))}
	}
	if m.isDir(at) {
		return impl.CallResult{Value: 2100 + int64(len(m.dirs[at]))}
	}
	return impl.CallResult{Value: 1000 + 100*m.dirs.leadTo(at) + int64(len(m.texts[at]))}
}

func (m *modelFs) create(c impl.Call, in int64) impl.CallResult {
	_, there := m.dirs[in][lastName(c.Path)]
	free := m.freePlace()
	code := firstCode(codeIf(there, impl.ErrTaken), codeIf(len(m.dirs[in]) == 6, impl.ErrMany), codeIf(free == 10, impl.ErrFull))
	if code != impl.OK {
		return impl.CallResult{Reply: code}
	}
	m.dirs[in][lastName(c.Path)] = free
	m.places = max(m.places, free+1)
	if c.Kind == impl.CallDir {
		m.dirs[free] = map[string]int64{}
	} else {
		m.texts[free], m.blocks[free] = []byte{}, []int64{}
	}
	return impl.CallResult{Value: free}
}

func (m *modelFs) work(c impl.Call, at int64, busy []int64) impl.CallResult {
	text := m.texts[at]
	size, end := int64(len(text)), int64(len(c.Data))
	fromCode := codeIf(c.From < 0 || c.From > 1000, impl.ErrRange)
	switch c.Kind {
	case impl.CallRead:
		if code := firstCode(fromCode, codeIf(c.Size < 0 || c.Size > 100, impl.ErrRange)); code != impl.OK {
			return impl.CallResult{Reply: code}
		}
		read := text[min(c.From, size):min(c.From+c.Size, size)]
		return impl.CallResult{Value: int64(len(read)), Bytes: read}
	case impl.CallWrite:
		if code := firstCode(fromCode, codeIf(c.From > 32-end, impl.ErrMany)); code != impl.OK {
			return impl.CallResult{Reply: code}
		}
		if end == 0 {
			return impl.CallResult{Value: size}
		}
		text = overlaid(text, c.From, c.Data)
	case impl.CallCut:
		if c.Size < 0 || c.Size > 32 {
			return impl.CallResult{Reply: impl.ErrRange}
		}
		text = append(slices.Clone(text), make([]byte, 32)...)[:c.Size]
	}
	blocks, room := freshBlocks(m.fs(), text, busy)
	if !room {
		return impl.CallResult{Reply: impl.ErrFull}
	}
	m.texts[at], m.blocks[at] = text, append([]int64{}, blocks...)
	return impl.CallResult{Value: int64(len(text))}
}

func (m *modelFs) discard(c impl.Call, in int64) impl.CallResult {
	at, there := m.dirs[in][lastName(c.Path)]
	code := codeIf(!there, impl.ErrNone)
	if c.Kind == impl.CallUnlink {
		code = firstCode(code, codeIf(m.isDir(at), impl.ErrDir))
	} else {
		code = firstCode(code, codeIf(!m.isDir(at), impl.ErrForm), codeIf(len(m.dirs[at]) > 0, impl.ErrFull))
	}
	if code == impl.OK {
		m.drop(in, lastName(c.Path))
	}
	return impl.CallResult{Reply: code}
}

func (m *modelFs) link(f impl.Fs, c impl.Call, at, end int64) int64 {
	goal, parent := modelParent(f, c.To)
	if code := firstCode(end, parent); code != impl.OK {
		return code
	}
	_, there := m.dirs[goal][lastName(c.To)]
	if code := firstCode(codeIf(there, impl.ErrTaken), codeIf(len(m.dirs[goal]) == 6, impl.ErrMany)); code != impl.OK {
		return code
	}
	m.dirs[goal][lastName(c.To)] = at
	return impl.OK
}

func (m *modelFs) rename(f impl.Fs, c impl.Call, in, parent int64) int64 {
	if parent != impl.OK {
		return parent
	}
	at, there := m.dirs[in][lastName(c.Path)]
	goal, upper := modelParent(f, c.To)
	code := firstCode(codeIf(!there, impl.ErrNone), upper)
	if code != impl.OK {
		return code
	}
	if m.isDir(at) && m.above(at, goal) {
		return impl.ErrForm
	}
	old, stands := m.dirs[goal][lastName(c.To)]
	switch {
	case stands && old == at:
		return impl.OK
	case stands && m.isDir(at) != m.isDir(old):
		return impl.ErrDir
	case stands && len(m.dirs[old]) > 0:
		return impl.ErrFull
	case stands:
		m.drop(goal, lastName(c.To))
	case len(m.dirs[goal]) == 6 && goal != in:
		return impl.ErrMany
	}
	delete(m.dirs[in], lastName(c.Path))
	m.dirs[goal][lastName(c.To)] = at
	return impl.OK
}

// checkDone asks for the first of promise 11, whatever was asked: the file
// system is whole, and as it was where it came to nothing.
func checkDone(t *testing.T, what string, f impl.Fs, busy []int64, r impl.CallResult) {
	t.Helper()
	wantCode(t, what, r.Code, impl.OK)
	wantCode(t, what+": FsFault", impl.FsFault(r.Fs), impl.OK)
	if r.Reply != impl.OK && !same(r, impl.CallResult{Reply: r.Reply, Fs: f}) {
		t.Errorf("%s: with a reply there is more than %v: %v", what, f, r)
	}
	checkBusyKept(t, what, f, r.Fs, busy)
}

// checkBusyKept: a busy block that a file has then has its bytes as they were,
// and no file has one that was of none. One that is of none has no bytes, or
// the file system would not be whole.
func checkBusyKept(t *testing.T, what string, before, after impl.Fs, busy []int64) {
	t.Helper()
	used, _ := modelUsed(before.Inodes)
	still, _ := modelUsed(after.Inodes)
	for _, block := range busy {
		if !among(still, block) {
			continue
		}
		if !among(used, block) || !bytes.Equal(before.Data[block], after.Data[block]) {
			t.Errorf("%s: block %d is busy, had %q, and has %q", what, block, before.Data[block], after.Data[block])
		}
	}
}

// checkAct holds a call without a fault against the model, and gives what
// comes of it.
func checkAct(t *testing.T, what string, f impl.Fs, c impl.Call, busy []int64) impl.CallResult {
	t.Helper()
	what = fmt.Sprintf("%s: %v, busy %v", what, c, busy)
	r := impl.DoCall(f, c, busy)
	m := modelOf(f)
	want := m.do(c, busy)
	want.Fs = m.fs()
	if !same(r, want) {
		t.Errorf("%s: %v, not %v, of %v", what, r, want, f)
	}
	checkDone(t, what, f, busy, r)
	return r
}

// diceWay is a path that is there, or one that a name is missing of, that goes
// on behind a file, that is too long, has too many names, or none.
func diceWay(d *dice, paths []string) string {
	some := names("a", "b", "ab", "c", "x", "zzzz")
	path := "/"
	if n := int64(len(paths)); n > 0 {
		path = paths[d.below(n)]
	}
	switch d.below(16) {
	case 0:
		return "/"
	case 1:
		return full6() + "y"
	case 2:
		return "/a/b/c/d/e/f/g"
	case 3:
		return dicePath(d, paths)
	case 4, 5:
		return "/" + some[d.below(6)]
	case 6, 7, 8:
		return strings.TrimSuffix(path, "/") + "/" + some[d.below(6)]
	}
	return path
}

// diceCall is a call without a fault; most of what it asks for can be had.
func diceCall(d *dice, paths []string) impl.Call {
	c := impl.Call{Kind: 1 + d.below(11), Path: diceWay(d, paths)}
	switch c.Kind {
	case impl.CallLink, impl.CallRename:
		c.To = diceWay(d, paths)
	case impl.CallWrite:
		c.From = d.below(20)
		c.Data = diceText(d, d.below(20))
	case impl.CallRead:
		c.From, c.Size = d.below(34), d.below(34)
	case impl.CallCut:
		c.Size = d.below(33)
	}
	if d.below(8) > 0 {
		return c
	}
	switch far := list(-1, 32, 33, 100, 101, 1000, 1001)[d.below(7)]; c.Kind {
	case impl.CallRead:
		c.From, c.Size = far, list(0, 100, 101, -1)[d.below(4)]
	case impl.CallWrite:
		c.From, c.Data = far, diceText(d, d.below(41))
	case impl.CallCut:
		c.Size = far
	}
	return c
}

// wantReplies tells which replies a call of each kind may come to.
func wantReplies() map[int64][]int64 {
	const many, none, text, no = impl.ErrMany, impl.ErrNone, impl.ErrText, impl.ErrDir
	return map[int64][]int64{
		impl.CallMake:   list(impl.OK, many, none, text, impl.ErrTaken, impl.ErrFull, no),
		impl.CallDir:    list(impl.OK, many, none, text, impl.ErrTaken, impl.ErrFull, no),
		impl.CallWrite:  list(impl.OK, many, impl.ErrRange, none, text, impl.ErrFull, no),
		impl.CallRead:   list(impl.OK, many, impl.ErrRange, none, text, no),
		impl.CallCut:    list(impl.OK, many, impl.ErrRange, none, text, impl.ErrFull, no),
		impl.CallUnlink: list(impl.OK, many, none, text, no),
		impl.CallRemove: list(impl.OK, impl.ErrForm, many, none, text, impl.ErrFull, no),
		impl.CallLink:   list(impl.OK, many, none, text, impl.ErrTaken, no),
		impl.CallRename: list(impl.OK, impl.ErrForm, many, none, text, impl.ErrFull, no),
		impl.CallStat:   list(impl.OK, many, none, text, no),
		impl.CallList:   list(impl.OK, many, none, text, no),
	}
}

// diceStart is a whole file system to begin a row of calls with.
func diceStart(d *dice) impl.Fs {
	switch d.below(4) {
	case 0:
		return impl.NewFs(nil).Fs
	case 1:
		return shuffled(d, diceDeep(d))
	}
	return shuffled(d, diceTree(d))
}

// Rows of calls, one behind the other. In some of them the blocks of the first
// file system are busy, as if it were the one that was kept.
func TestCallsAgainstModel(t *testing.T) {
	d := dice(12)
	var count [12][11]int
	for row := range 700 {
		f := diceStart(&d)
		var busy []int64
		switch d.below(3) {
		case 0:
			busy, _ = modelUsed(f.Inodes)
		case 1:
			busy = diceBusy(&d)
		}
		for range 50 {
			c := diceCall(&d, modelPaths(f))
			r := checkAct(t, fmt.Sprint("row ", row), f, c, busy)
			count[c.Kind][r.Reply]++
			f = r.Fs
		}
		if t.Failed() {
			t.FailNow()
		}
	}
	for kind, replies := range wantReplies() {
		for reply := range count[kind] {
			if (count[kind][reply] > 0) != among(replies, int64(reply)) {
				t.Errorf("kind %d came to reply %d %d times: %v", kind, reply, count[kind][reply], count[kind])
			}
		}
	}
}

// handCalls is calls of all kinds at each of these paths; those of two paths
// go to the next few of them.
func handCalls(paths []string) []impl.Call {
	var all []impl.Call
	for i, path := range paths {
		for kind := int64(1); kind < 12; kind++ {
			c := impl.Call{Kind: kind, Path: path}
			switch kind {
			case impl.CallWrite:
				c.From, c.Data = int64(i%30), []byte("xy")
			case impl.CallRead:
				c.From, c.Size = int64(i%9), 20
			case impl.CallCut:
				c.Size = int64(i % 33)
			case impl.CallLink, impl.CallRename:
				for _, step := range []int{0, 1, 2, 5} {
					c.To = paths[(i+step)%len(paths)]
					all = append(all, c)
				}
				continue
			}
			all = append(all, c)
		}
	}
	return all
}

// wrongWays are paths that lead nowhere, whatever there is, and the top.
func wrongWays() []string {
	return names("/", "", "x", "/x/", "/X", "/abcde", "/q/q", "/a/b/c/d/e/f/g", full6()+"y")
}

func TestCallsOnTreesByHand(t *testing.T) {
	trees := walkTrees()
	for _, c := range fileTrees() {
		trees = append(trees, walkTree{c.what, c.fs, modelPaths(c.fs)})
	}
	for _, c := range trees {
		paths := append(slices.Clone(c.paths), wrongWays()...)
		for _, path := range c.paths {
			paths = append(paths, path+"/q")
		}
		used, _ := modelUsed(c.fs.Inodes)
		for i, call := range handCalls(paths) {
			checkAct(t, c.what, c.fs, call, [][]int64{nil, used, without(used...), upTo(20), list(0, 5)}[i%5])
		}
		if t.Failed() {
			t.FailNow()
		}
	}
}
