package tests

import (
	"bytes"
	"fmt"
	"testing"

	"loop.example/g00295/impl"
)

// modelLookCode is the code that what is looked over may have.
func modelLookCode(f impl.Fs) int64 {
	if len(f.Inodes) > 10 {
		return impl.ErrMany
	}
	for _, x := range f.Inodes {
		if code := impl.InodeFault(x); code != impl.OK {
			return code
		}
	}
	return codeIf(len(f.Inodes) == 0 || f.Inodes[0].Kind != impl.KindDir || len(f.Data) != 20, impl.ErrForm)
}

func kindAt(f impl.Fs, at int64) int64 {
	if at < 0 || at >= int64(len(f.Inodes)) {
		return impl.KindFree
	}
	return f.Inodes[at].Kind
}

// modelFirstWays tells of each directory that is met the way of its right
// entry: by which entries one comes to it from the top. Nothing is gone through
// breadth first for this: of all ways to a directory the shortest one is taken,
// and of these the first.
func modelFirstWays(f impl.Fs) map[int64]string {
	ways := map[int64]string{0: ""}
	for range f.Inodes {
		for at, x := range f.Inodes {
			above, met := ways[int64(at)]
			if !met {
				continue
			}
			for i, e := range x.Entries {
				if kindAt(f, e.Inode) != impl.KindDir {
					continue
				}
				way := above + string(rune('a'+i))
				old, is := ways[e.Inode]
				if !is || len(way) < len(old) || len(way) == len(old) && way < old {
					ways[e.Inode] = way
				}
			}
		}
	}
	return ways
}

// modelLook is what is right of a file system.
type modelLook struct {
	fs    impl.Fs
	ways  map[int64]string
	links [10]int64
}

func newModelLook(f impl.Fs) *modelLook {
	m := &modelLook{fs: f, ways: modelFirstWays(f)}
	for at, x := range f.Inodes {
		for i, e := range x.Entries {
			if m.isRight(int64(at), i) && kindAt(f, e.Inode) == impl.KindFile {
				m.links[e.Inode]++
			}
		}
	}
	return m
}

func (m *modelLook) isMet(at int64) bool {
	_, is := m.ways[at]
	return is || m.links[at] > 0
}

func (m *modelLook) isRight(at int64, i int) bool {
	above, met := m.ways[at]
	to := m.fs.Inodes[at].Entries[i].Inode
	switch kindAt(m.fs, to) {
	case impl.KindFile:
		return met
	case impl.KindDir:
		return met && m.ways[to] == above+string(rune('a'+i))
	}
	return false
}

// isRightBlock asks of the first blocks of a file, up to this one, for a file
// ahead that has one of them as a right one.
func (m *modelLook) isRightBlock(at int64, i int) bool {
	for _, block := range m.fs.Inodes[at].Blocks[:i+1] {
		for ahead := range at {
			for j, other := range m.fs.Inodes[ahead].Blocks {
				if block == other && m.isMet(ahead) && m.isRightBlock(ahead, j) {
					return false
				}
			}
		}
	}
	return true
}

// repaired puts together what is right.
func (m *modelLook) repaired() impl.Fs {
	next := impl.Fs{Inodes: make([]impl.Inode, len(m.fs.Inodes)), Data: make([][]byte, 20)}
	for place, x := range m.fs.Inodes {
		at := int64(place)
		if !m.isMet(at) {
			continue
		}
		y := impl.Inode{Kind: x.Kind, Links: m.links[at]}
		for i, e := range x.Entries {
			if m.isRight(at, i) {
				y.Entries = append(y.Entries, e)
			}
		}
		for i, block := range x.Blocks {
			if m.isRightBlock(at, i) {
				y.Blocks = append(y.Blocks, block)
				y.Size = min(x.Size, int64(8*i+8))
				next.Data[block] = m.bytesOf(block, y.Size-int64(8*i))
			}
		}
		next.Inodes[at] = y
	}
	return next
}

func (m *modelLook) bytesOf(block, size int64) []byte {
	all := append(bytes.Clone(m.fs.Data[block]), make([]byte, 8)...)
	return all[:size]
}

// findings counts what is wrong, each thing by itself.
func (m *modelLook) findings() []int64 {
	counts := list(0, 0, 0, 0, 0)
	for place, x := range m.fs.Inodes {
		at := int64(place)
		if !m.isMet(at) {
			counts[1] += codeIf(x.Kind != impl.KindFree, 1)
			continue
		}
		for i := range x.Entries {
			counts[0] += codeIf(!m.isRight(at, i), 1)
		}
		for i := range x.Blocks {
			counts[2] += codeIf(!m.isRightBlock(at, i), 1)
		}
		counts[3] += codeIf(x.Links != m.links[at], 1)
	}
	for at, held := range m.repaired().Data {
		counts[4] += codeIf(len(held) != len(m.fs.Data[at]), 1)
	}
	return counts
}

// checkLook holds what is found and repaired against the model, and asks for
// all of promise 16 that speaks of that. It tells what is found.
func checkLook(t *testing.T, what string, f impl.Fs) []int64 {
	t.Helper()
	if code := modelLookCode(f); code != impl.OK {
		wantNoLook(t, what, f, code)
		return nil
	}
	m := newModelLook(f)
	wantLook(t, what, f, m.findings(), m.repaired())
	return m.findings()
}

// Three directories and a file: every way in which they can name each other.
func TestLookOfEachGraph(t *testing.T) {
	whole := 0
	for set := range 1 << 12 {
		for links := int64(1); links < 4; links++ {
			f := tree(graph(set, links)...)
			if same(checkLook(t, fmt.Sprint(f), f), list(0, 0, 0, 0, 0)) {
				whole++
			}
		}
		if t.Failed() {
			t.FailNow()
		}
	}
	if whole != 21 {
		t.Errorf("nothing is found in %d of them, not in 21", whole)
	}
}

// backwardGraph is four directories; each bit of the set tells whether one
// names another. The names of each rise as its bit of the second set says: as
// the places do, or the other way.
func backwardGraph(set, falls int) []impl.Inode {
	all := alike(4, dir())
	for from := range 4 {
		for i := range 4 {
			to := i
			if falls>>from&1 == 1 {
				to = 3 - i
			}
			if set>>(from*4+to)&1 == 1 {
				all[from].Entries = append(all[from].Entries, entry(string(rune('a'+i)), int64(to)))
			}
		}
	}
	return all
}

// Four directories: every way in which they can name each other, if none of
// them names the top, or they all do.
func TestLookOfEachGraphBackward(t *testing.T) {
	for set := range 1 << 16 {
		if top := set & 0x1111; top != 0 && top != 0x1111 || set%3 > 0 {
			continue
		}
		for _, falls := range []int{0, 5, 6, 15} {
			f := tree(backwardGraph(set, falls)...)
			checkLook(t, fmt.Sprint(f), f)
		}
		if t.Failed() {
			t.FailNow()
		}
	}
}

// Each place alone may be anything.
func TestLookOfEachKindAtEachPlace(t *testing.T) {
	for _, c := range allInodeCases() {
		for at := range 4 {
			f := tree(dir(entry("a", 1), entry("b", 2)), dir(entry("a", 3)), file(1, 9, 3, 4), dir())
			f.Inodes[at] = c.inode
			checkLook(t, fmt.Sprint(c.what, " at ", at), f)
		}
	}
}

// Three files and whether they are met: every two blocks that each may have, of
// three.
func TestLookOfEachPairOfBlocks(t *testing.T) {
	pairs := [][]int64{nil, list(4), list(5), list(4, 5), list(5, 4), list(4, 6), list(6, 5)}
	for set := range 8 * len(pairs) * len(pairs) * len(pairs) {
		all := inodes(dir())
		rest := set / 8
		for at := range int64(3) {
			if set>>at&1 == 1 {
				all[0].Entries = append(all[0].Entries, entry(string(rune('a'+at)), at+1))
			}
			blocks := pairs[rest%len(pairs)]
			rest /= len(pairs)
			all = append(all, file(1, max(int64(len(blocks))*8-at, 0), blocks...))
		}
		f := impl.Fs{Inodes: all, Data: make([][]byte, 20)}
		f.Data[4], f.Data[5], f.Data[6] = []byte("abcdefgh"), []byte("ijklmno"), []byte("pqrstuv")
		checkLook(t, fmt.Sprint(f), f)
		if t.Failed() {
			t.FailNow()
		}
	}
}

// diceWild is a file system of inodes without a fault, but for that nothing
// need be right.
func diceWild(x *dice) impl.Fs {
	n := 1 + x.below(10)
	some := []int64{4, 8, 20}[x.below(3)]
	f := impl.Fs{Inodes: inodes(dir()), Data: make([][]byte, 20)}
	for int64(len(f.Inodes)) < n {
		f.Inodes = append(f.Inodes, []impl.Inode{kind(0), dir(), dir(), wildFile(x, some), wildFile(x, some)}[x.below(5)])
	}
	most := []int64{n, n, n + 2}[x.below(3)]
	for at := range f.Inodes {
		if f.Inodes[at].Kind != impl.KindDir {
			continue
		}
		for i := range x.below(7) {
			f.Inodes[at].Entries = append(f.Inodes[at].Entries, entry(string(rune('a'+i)), min(x.below(most), 9)))
		}
	}
	if x.below(2) == 0 {
		f.Data = newModelLook(f).repaired().Data
	}
	for range []int64{0, 1, x.below(4), 30}[x.below(4)] {
		f.Data[x.below(20)] = freshText(x.below(11))
	}
	return f
}

// wildFile has blocks below a number, which others have as well.
func wildFile(x *dice, below int64) impl.Inode {
	size := x.below(33)
	var blocks []int64
	for int64(len(blocks)) < (size+7)/8 {
		if block := x.below(below); !among(blocks, block) {
			blocks = append(blocks, block)
		}
	}
	return file(1+x.below(3), size, blocks...)
}

// diceBreak breaks one thing of a file system, so that no inode has a fault.
func diceBreak(x *dice, f *impl.Fs) {
	n := int64(len(f.Inodes))
	at := x.below(n)
	one := &f.Inodes[at]
	switch x.below(8) {
	case 0:
		if len(one.Entries) > 0 {
			one.Entries[x.below(int64(len(one.Entries)))].Inode = []int64{x.below(n), x.below(10), 0, at}[x.below(4)]
		}
	case 1:
		if m := len(one.Entries); m > 0 && m < 6 && len(one.Entries[m-1].Name) < 4 {
			one.Entries = append(one.Entries, entry(one.Entries[m-1].Name+"z", x.below(n)))
		}
	case 2:
		if m := len(one.Entries); m > 0 {
			one.Entries = one.Entries[:m-1]
		}
	case 3:
		if one.Kind == impl.KindFile {
			one.Links = 1 + x.below(60)
		}
	case 4:
		one, other := &f.Inodes[withBlocksFrom(f, at)], f.Inodes[withBlocksFrom(f, x.below(n))].Blocks
		if len(one.Blocks) > 0 {
			if block := other[x.below(int64(len(other)))]; !among(one.Blocks, block) {
				one.Blocks[x.below(int64(len(one.Blocks)))] = block
			}
		}
	case 5:
		f.Data[x.below(20)] = freshText(x.below(11))
	case 6:
		if at > 0 {
			*one = inodes(kind(0), dir(), file(1, 0), dir(entry("a", at)), wildFile(x, 20))[x.below(5)]
		}
	case 7:
		if m := int64(len(one.Blocks)); m > 0 {
			one.Size = 8*m - x.below(8)
		}
	}
}

// withBlocksFrom is the first inode that has blocks, from a place on and then
// from the first one on; where none has any it is that place.
func withBlocksFrom(f *impl.Fs, at int64) int64 {
	n := int64(len(f.Inodes))
	for i := range n {
		if len(f.Inodes[(at+i)%n].Blocks) > 0 {
			return (at + i) % n
		}
	}
	return at
}

// looks counts how often each of the five was found, and how many of them at
// once.
type looks struct {
	all, none, alone, every int
	each                    [5]int
}

func (n *looks) add(found []int64) {
	if found == nil {
		return
	}
	n.all++
	wrong := 0
	for i, count := range found {
		if count > 0 {
			wrong++
			n.each[i]++
		}
	}
	switch wrong {
	case 0:
		n.none++
	case 1:
		n.alone++
	case 5:
		n.every++
	}
}

func TestLooksAgainstModel(t *testing.T) {
	x := dice(101)
	var wild, broken looks
	for row := range 4000 {
		f := diceWild(&x)
		wild.add(checkLook(t, fmt.Sprint("wild row ", row, ": ", f), f))
		f = ownFs(diceBytes(&x, shuffled(&x, diceTree(&x))))
		for range x.below(6) {
			broken.add(checkLook(t, fmt.Sprint("row ", row, ": ", f), f))
			for range 1 + x.below(4) {
				diceBreak(&x, &f)
			}
			f = ownFs(f)
		}
		if t.Failed() {
			t.FailNow()
		}
	}
	for what, n := range map[string]looks{"wild": wild, "broken": broken} {
		if n.none < 20 || n.alone < 400 || n.every < 20 || min(n.each[0], n.each[1], n.each[2], n.each[3], n.each[4]) < 400 {
			t.Errorf("%s ones are too much alike: %+v", what, n)
		}
	}
}

// With faults of all kinds, such too as have a code.
func TestFaultsThatAreLookedOver(t *testing.T) {
	x := dice(102)
	var count [11]int
	for row := range 3000 {
		f := ownFs(diceTree(&x))
		for range x.below(5) {
			diceFault(&x, &f)
			count[modelLookCode(f)]++
			checkLook(t, fmt.Sprint("row ", row, ": ", f), f)
			f = ownFs(f)
		}
		if t.Failed() {
			t.FailNow()
		}
	}
	wantCounts(t, count, impl.OK, impl.ErrForm, impl.ErrRange)
}

// Nothing is found just in what is whole, and of that nothing turns.
func TestWholeTreesAreNotRepaired(t *testing.T) {
	noughts := list(0, 0, 0, 0, 0)
	check := func(what string, f impl.Fs) {
		t.Helper()
		wantCode(t, what, impl.FsFault(f), impl.OK)
		wantWords(t, what+": FindingsOf", impl.FindingsOf(f), noughts)
		wantFs(t, what+": RepairFs", impl.RepairFs(f), f)
	}
	for _, c := range wholeTrees() {
		check(c.what, c.fs)
	}
	for _, c := range walkTrees() {
		check(c.what, c.fs)
	}
	for _, c := range imageTrees() {
		check(c.what, c.fs)
	}
	x := dice(103)
	for row := range 2000 {
		check(fmt.Sprint("row ", row), diceBytes(&x, shuffled(&x, diceTree(&x))))
		check(fmt.Sprint("deep row ", row), shuffled(&x, diceDeep(&x)))
	}
}
