package tests

import (
	"testing"

	"loop.example/g00295/impl"
)

// The names, constants and signatures of chapter 4, as the document has them.
var (
	_ func(impl.Inode) int64            = impl.InodeFault
	_ func(impl.Inode) impl.IntsResult  = impl.PackInode
	_ func([]int64) impl.InodeResult    = impl.UnpackInode
	_ func(int64) impl.IntResult        = impl.BlocksFor
	_ func(impl.Inode, impl.Inode) bool = impl.SameInodes
	_                                   = impl.Entry{Name: "", Inode: int64(0)}
	_                                   = impl.Inode{Kind: int64(0), Links: int64(0), Size: int64(0), Blocks: []int64(nil), Entries: []impl.Entry(nil)}
	_                                   = impl.InodeResult{Code: int64(0), Inode: impl.Inode{}}
	_                                   = [1]int{}[impl.KindFree-0]
	_                                   = [1]int{}[impl.KindFile-1]
	_                                   = [1]int{}[impl.KindDir-2]
	_                                   = [1]int{}[impl.MaxInodes-10]
	_                                   = [1]int{}[impl.DataBlocks-20]
	_                                   = [1]int{}[impl.BlockBytes-8]
	_                                   = [1]int{}[impl.FileBlocks-4]
	_                                   = [1]int{}[impl.MaxEntries-6]
	_ byte                              = impl.KindDir
	_ string                            = impl.Entry{}.Name
)

func file(links, size int64, blocks ...int64) impl.Inode {
	return impl.Inode{Kind: impl.KindFile, Links: links, Size: size, Blocks: blocks}
}

func dir(entries ...impl.Entry) impl.Inode {
	return impl.Inode{Kind: impl.KindDir, Entries: entries}
}

func entry(name string, at int64) impl.Entry {
	return impl.Entry{Name: name, Inode: at}
}

type inodeWords struct {
	what  string
	inode impl.Inode
	words []int64
}

// soundInodes are inodes without a fault and their words, written by hand.
func soundInodes() []inodeWords {
	return []inodeWords{
		{"free", impl.Inode{}, list(0, 0, 0)},
		{"a file of no bytes", file(1, 0), list(1, 1, 0)},
		{"a file of no bytes, many links", file(60, 0), list(1, 60, 0)},
		{"a file of 1 byte", file(1, 1, 0), list(1, 1, 1, 0)},
		{"a file of 1 byte in the last block", file(2, 1, 19), list(1, 2, 1, 19)},
		{"a file of one block", file(1, 8, 7), list(1, 1, 8, 7)},
		{"a file of one block and 1 byte", file(1, 9, 4, 2), list(1, 1, 9, 4, 2)},
		{"a file of two blocks", file(1, 16, 2, 4), list(1, 1, 16, 2, 4)},
		{"a file of two blocks and 1 byte", file(3, 17, 19, 0, 1), list(1, 3, 17, 19, 0, 1)},
		{"a file of three blocks", file(59, 24, 9, 8, 10), list(1, 59, 24, 9, 8, 10)},
		{"a file of three blocks and 1 byte", file(1, 25, 3, 2, 1, 0), list(1, 1, 25, 3, 2, 1, 0)},
		{"a file of four blocks but 1 byte", file(1, 31, 16, 17, 18, 19), list(1, 1, 31, 16, 17, 18, 19)},
		{"a file of four blocks", file(60, 32, 19, 5, 0, 11), list(1, 60, 32, 19, 5, 0, 11)},
		{"a directory of no entries", dir(), list(2, 0, 0, 0)},
		{"an entry", dir(entry("a", 0)), list(2, 0, 0, 1, 0, 1, 97)},
		{"an entry of the last inode", dir(entry("z", 9)), list(2, 0, 0, 1, 9, 1, 122)},
		{"a name of 2 bytes", dir(entry("ab", 3)), list(2, 0, 0, 1, 3, 2, 97, 98)},
		{"a name of 3 bytes", dir(entry("cab", 4)), list(2, 0, 0, 1, 4, 3, 99, 97, 98)},
		{"a name of MaxName bytes", dir(entry("zaaz", 5)), list(2, 0, 0, 1, 5, 4, 122, 97, 97, 122)},
		{"two entries of one inode", dir(entry("a", 1), entry("b", 1)), list(2, 0, 0, 2, 1, 1, 97, 1, 1, 98)},
		{"inodes that fall", dir(entry("a", 2), entry("b", 1)), list(2, 0, 0, 2, 2, 1, 97, 1, 1, 98)},
		{"a beginning ahead of what is longer", dir(entry("a", 1), entry("ab", 2), entry("b", 0)), list(2, 0, 0, 3, 1, 1, 97, 2, 2, 97, 98, 0, 1, 98)},
		{"a longer one ahead of a greater one", dir(entry("azzz", 1), entry("b", 2)), list(2, 0, 0, 2, 1, 4, 97, 122, 122, 122, 2, 1, 98)},
		{"MaxEntries entries", dir(entry("a", 9), entry("b", 8), entry("c", 7), entry("d", 6), entry("e", 5), entry("f", 4)),
			list(2, 0, 0, 6, 9, 1, 97, 8, 1, 98, 7, 1, 99, 6, 1, 100, 5, 1, 101, 4, 1, 102)},
		{"MaxEntries entries of MaxName bytes", dir(entry("aaaa", 1), entry("aaab", 2), entry("aaba", 3), entry("abaa", 4), entry("baaa", 5), entry("zzzz", 9)),
			list(2, 0, 0, 6, 1, 4, 97, 97, 97, 97, 2, 4, 97, 97, 97, 98, 3, 4, 97, 97, 98, 97, 4, 4, 97, 98, 97, 97, 5, 4, 98, 97, 97, 97, 9, 4, 122, 122, 122, 122)},
		{"beginnings of all lengths", dir(entry("a", 0), entry("aa", 0), entry("aaa", 0), entry("aaaa", 0), entry("aab", 0), entry("ab", 0)),
			list(2, 0, 0, 6, 0, 1, 97, 0, 2, 97, 97, 0, 3, 97, 97, 97, 0, 4, 97, 97, 97, 97, 0, 3, 97, 97, 98, 0, 2, 97, 98)},
	}
}

func wantWords(t *testing.T, what string, r impl.IntsResult, want []int64) {
	t.Helper()
	if !same(r, impl.IntsResult{List: want}) {
		t.Errorf("%s: %v, not %v", what, r, want)
	}
}

func wantInode(t *testing.T, what string, r impl.InodeResult, want impl.Inode) {
	t.Helper()
	if !same(r, impl.InodeResult{Inode: want}) {
		t.Errorf("%s: %v, not %v", what, r, want)
	}
}

func wantNoInode(t *testing.T, what string, r impl.InodeResult, code int64) {
	t.Helper()
	if !same(r, impl.InodeResult{Code: code}) {
		t.Errorf("%s: %v, not code %d alone", what, r, code)
	}
}

func wantSame(t *testing.T, what string, a, b impl.Inode, want bool) {
	t.Helper()
	if impl.SameInodes(a, b) != want || impl.SameInodes(b, a) != want {
		t.Errorf("%s: SameInodes of %v and %v is not %v", what, a, b, want)
	}
}

func TestPackAndUnpack(t *testing.T) {
	for _, c := range soundInodes() {
		wantCode(t, c.what, impl.InodeFault(c.inode), impl.OK)
		packed := impl.PackInode(c.inode)
		wantWords(t, c.what+": PackInode", packed, c.words)
		wantInode(t, c.what+": UnpackInode", impl.UnpackInode(c.words), c.inode)
		wantInode(t, c.what+": UnpackInode of what is packed", impl.UnpackInode(packed.List), c.inode)
	}
}

// A file of each number of bytes takes blocks enough for them, and no more.
func TestFilesOfEachSize(t *testing.T) {
	for size := range int64(33) {
		want := int64(0)
		for want*8 < size {
			want++
		}
		if r := impl.BlocksFor(size); r != (impl.IntResult{Value: want}) {
			t.Errorf("BlocksFor %d: %v, not %d", size, r, want)
		}
		for n := range int64(6) {
			x := file(1, size, list(19, 3, 0, 7, 11)[:min(n, 5)]...)
			if n == want {
				wantWords(t, "PackInode", impl.PackInode(x), append(list(1, 1, size), x.Blocks...))
				wantInode(t, "UnpackInode", impl.UnpackInode(impl.PackInode(x).List), x)
				continue
			}
			wantCode(t, "blocks that are not those for the size", impl.InodeFault(x), impl.ErrForm)
		}
	}
}

func TestFilesOfEachNumberOfLinks(t *testing.T) {
	for links := int64(1); links <= 60; links++ {
		x := file(links, 1, 5)
		wantWords(t, "PackInode", impl.PackInode(x), list(1, links, 1, 5))
		wantInode(t, "UnpackInode", impl.UnpackInode(list(1, links, 1, 5)), x)
	}
}

func TestDirectoriesOfEachNumberOfEntries(t *testing.T) {
	all := []impl.Entry{entry("a", 0), entry("bc", 9), entry("def", 3), entry("ghij", 3), entry("k", 1), entry("lm", 2)}
	for n := range len(all) + 1 {
		x := dir(all[:n]...)
		want := list(2, 0, 0, int64(n))
		for _, e := range all[:n] {
			want = append(want, e.Inode, int64(len(e.Name)))
			for _, b := range []byte(e.Name) {
				want = append(want, int64(b))
			}
		}
		wantWords(t, "PackInode", impl.PackInode(x), want)
		wantInode(t, "UnpackInode", impl.UnpackInode(want), x)
	}
}

// No words are the zero value, which is a free inode, though its own words
// are three.
func TestNoWords(t *testing.T) {
	wantInode(t, "nil", impl.UnpackInode(nil), impl.Inode{})
	wantInode(t, "no words", impl.UnpackInode(list()), impl.Inode{})
	wantWords(t, "the words of a free inode", impl.PackInode(impl.Inode{}), list(0, 0, 0))
	wantInode(t, "the words of a free inode", impl.UnpackInode(list(0, 0, 0)), impl.Inode{})
}

func TestExampleOfInodes(t *testing.T) {
	wantWords(t, "PackInode of a directory without entries", impl.PackInode(dir()), list(2, 0, 0, 0))
}

// Of any two the one is the other only where both stand at one place.
func TestSameInodesOfSound(t *testing.T) {
	all := soundInodes()
	for i := range all {
		for j, other := range soundInodes() {
			wantSame(t, all[i].what+", "+other.what, all[i].inode, other.inode, i == j)
		}
	}
}

func TestSameInodesOfEmptyLists(t *testing.T) {
	empty := impl.Inode{Blocks: []int64{}, Entries: []impl.Entry{}}
	wantSame(t, "nil and empty", impl.Inode{}, empty, true)
	wantSame(t, "nil blocks", impl.Inode{Entries: []impl.Entry{}}, impl.Inode{Blocks: []int64{}}, true)
	wantSame(t, "room behind the end", impl.Inode{Blocks: list(1, 2)[:0]}, impl.Inode{Blocks: list(3)[:0]}, true)
	wantSame(t, "nil and a block", impl.Inode{}, impl.Inode{Blocks: list(0)}, false)
	wantSame(t, "nil and an entry", impl.Inode{}, impl.Inode{Entries: []impl.Entry{{}}}, false)
}

// SameInodes asks for no fault: it holds any two against each other, field by
// field.
func TestSameInodesOfOneField(t *testing.T) {
	full := func() impl.Inode {
		return impl.Inode{Kind: 7, Links: -1, Size: 99, Blocks: list(5, 5, 300), Entries: []impl.Entry{entry("b", 1), entry("A/", -4), entry("", 70)}}
	}
	wantSame(t, "all is the same", full(), full(), true)
	for what, turn := range map[string]func(*impl.Inode){
		"Kind":                      func(x *impl.Inode) { x.Kind = 6 },
		"Kind by a power of two":    func(x *impl.Inode) { x.Kind += 1 << 32 },
		"Links":                     func(x *impl.Inode) { x.Links = 1 },
		"Size":                      func(x *impl.Inode) { x.Size = 98 },
		"Size by a power of two":    func(x *impl.Inode) { x.Size += 1 << 40 },
		"the first block":           func(x *impl.Inode) { x.Blocks[0] = 4 },
		"the last block":            func(x *impl.Inode) { x.Blocks[2] = 44 },
		"one block fewer":           func(x *impl.Inode) { x.Blocks = x.Blocks[:2] },
		"the first block gone":      func(x *impl.Inode) { x.Blocks = x.Blocks[1:] },
		"one block more":            func(x *impl.Inode) { x.Blocks = append(x.Blocks, 0) },
		"no blocks":                 func(x *impl.Inode) { x.Blocks = nil },
		"blocks in another order":   func(x *impl.Inode) { x.Blocks[1], x.Blocks[2] = 300, 5 },
		"the first name":            func(x *impl.Inode) { x.Entries[0].Name = "a" },
		"the first name longer":     func(x *impl.Inode) { x.Entries[0].Name = "bb" },
		"the last name":             func(x *impl.Inode) { x.Entries[2].Name = "\x00" },
		"the first entry's inode":   func(x *impl.Inode) { x.Entries[0].Inode = 2 },
		"the last entry's inode":    func(x *impl.Inode) { x.Entries[2].Inode = 71 },
		"one entry fewer":           func(x *impl.Inode) { x.Entries = x.Entries[:2] },
		"the first entry gone":      func(x *impl.Inode) { x.Entries = x.Entries[1:] },
		"one entry more":            func(x *impl.Inode) { x.Entries = append(x.Entries, impl.Entry{}) },
		"no entries":                func(x *impl.Inode) { x.Entries = nil },
		"entries in another order":  func(x *impl.Inode) { x.Entries[0], x.Entries[1] = x.Entries[1], x.Entries[0] },
		"names in another order":    func(x *impl.Inode) { x.Entries[0].Name, x.Entries[1].Name = x.Entries[1].Name, x.Entries[0].Name },
		"all of another kind's own": func(x *impl.Inode) { x.Links, x.Size, x.Blocks = 0, 0, nil },
	} {
		other := full()
		turn(&other)
		wantSame(t, what, full(), other, false)
		wantSame(t, what+", itself", other, other, true)
	}
}
