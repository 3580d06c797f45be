package tests

import (
	"math"
	"strings"
	"testing"

	"loop.example/g00295/impl"
)

type inodeCase struct {
	what  string
	inode impl.Inode
	code  int64
}

func kind(number int64) impl.Inode {
	return impl.Inode{Kind: number}
}

// kindCases: what another kind alone has is 0 or empty.
func kindCases() []inodeCase {
	one := []impl.Entry{entry("a", 1)}
	return []inodeCase{
		{"Kind -1", kind(-1), impl.ErrForm},
		{"Kind 0", kind(0), impl.OK},
		{"Kind 2", kind(2), impl.OK},
		{"Kind 3", kind(3), impl.ErrForm},
		{"Kind far below", kind(math.MinInt64), impl.ErrForm},
		{"Kind far above", kind(math.MaxInt64), impl.ErrForm},
		{"Kind 0 and a power of two", kind(1 << 32), impl.ErrForm},
		{"Kind 2 and a power of two", kind(1<<32 + 2), impl.ErrForm},
		{"a whole file of Kind 3", impl.Inode{Kind: 3, Links: 1, Size: 1, Blocks: list(1)}, impl.ErrForm},
		{"a whole directory of Kind 3", impl.Inode{Kind: 3, Entries: one}, impl.ErrForm},

		{"free, with links", impl.Inode{Links: 1}, impl.ErrForm},
		{"free, with links below 0", impl.Inode{Links: -1}, impl.ErrForm},
		{"free, with a size", impl.Inode{Size: 1}, impl.ErrForm},
		{"free, with a size below 0", impl.Inode{Size: -1}, impl.ErrForm},
		{"free, with a block", impl.Inode{Blocks: list(0)}, impl.ErrForm},
		{"free, with an entry", impl.Inode{Entries: one}, impl.ErrForm},
		{"free, with all of a file", impl.Inode{Links: 1, Size: 1, Blocks: list(1)}, impl.ErrForm},
		{"free, with empty lists", impl.Inode{Blocks: list(), Entries: []impl.Entry{}}, impl.OK},

		{"a file with an entry", impl.Inode{Kind: 1, Links: 1, Entries: one}, impl.ErrForm},
		{"a file with bytes and an entry", impl.Inode{Kind: 1, Links: 1, Size: 1, Blocks: list(1), Entries: one}, impl.ErrForm},
		{"a file with no entries", impl.Inode{Kind: 1, Links: 1, Entries: []impl.Entry{}}, impl.OK},

		{"a directory with links", impl.Inode{Kind: 2, Links: 1}, impl.ErrForm},
		{"a directory with links below 0", impl.Inode{Kind: 2, Links: -1}, impl.ErrForm},
		{"a directory with a size", impl.Inode{Kind: 2, Size: 1}, impl.ErrForm},
		{"a directory with a size below 0", impl.Inode{Kind: 2, Size: -1}, impl.ErrForm},
		{"a directory with a block", impl.Inode{Kind: 2, Blocks: list(0)}, impl.ErrForm},
		{"a directory with entries and links", impl.Inode{Kind: 2, Links: 1, Entries: one}, impl.ErrForm},
		{"a directory with entries and a size", impl.Inode{Kind: 2, Size: 1, Entries: one}, impl.ErrForm},
		{"a directory with entries and a block", impl.Inode{Kind: 2, Blocks: list(3), Entries: one}, impl.ErrForm},
		{"a directory with no blocks", impl.Inode{Kind: 2, Blocks: list(), Entries: one}, impl.OK},
	}
}

func fileCases() []inodeCase {
	return []inodeCase{
		{"Links below 0", file(-1, 0), impl.ErrRange},
		{"Links 0", file(0, 0), impl.ErrRange},
		{"Links 1", file(1, 0), impl.OK},
		{"Links 60", file(60, 0), impl.OK},
		{"Links 61", file(61, 0), impl.ErrRange},
		{"Links far above", file(math.MaxInt64, 0), impl.ErrRange},
		{"Links far below", file(math.MinInt64, 0), impl.ErrRange},
		{"Links 1 and a power of two", file(1<<32+1, 0), impl.ErrRange},

		{"Size -1", file(1, -1), impl.ErrRange},
		{"Size -1 and a block", file(1, -1, 1), impl.ErrRange},
		{"Size 0", file(1, 0), impl.OK},
		{"Size 32", file(1, 32, 1, 2, 3, 4), impl.OK},
		{"Size 33", file(1, 33, 1, 2, 3, 4), impl.ErrRange},
		{"Size 33 and blocks for it", file(1, 33, 1, 2, 3, 4, 5), impl.ErrRange},
		{"Size far above", file(1, math.MaxInt64), impl.ErrRange},
		{"Size far below", file(1, math.MinInt64), impl.ErrRange},
		{"Size 8 and a power of two", file(1, 1<<32+8, 1), impl.ErrRange},

		{"a block and no bytes", file(1, 0, 1), impl.ErrForm},
		{"1 byte and no block", file(1, 1), impl.ErrForm},
		{"1 byte and two blocks", file(1, 1, 1, 2), impl.ErrForm},
		{"8 bytes and no block", file(1, 8), impl.ErrForm},
		{"8 bytes and two blocks", file(1, 8, 1, 2), impl.ErrForm},
		{"9 bytes and one block", file(1, 9, 1), impl.ErrForm},
		{"9 bytes and three blocks", file(1, 9, 1, 2, 3), impl.ErrForm},
		{"32 bytes and three blocks", file(1, 32, 1, 2, 3), impl.ErrForm},
		{"32 bytes and five blocks", file(1, 32, 1, 2, 3, 4, 5), impl.ErrForm},
		{"32 bytes and many blocks", file(1, 32, make([]int64, 70000)...), impl.ErrForm},

		{"a block -1", file(1, 8, -1), impl.ErrRange},
		{"a block 0", file(1, 8, 0), impl.OK},
		{"a block 19", file(1, 8, 19), impl.OK},
		{"a block 20", file(1, 8, 20), impl.ErrRange},
		{"a block far above", file(1, 8, math.MaxInt64), impl.ErrRange},
		{"a block far below", file(1, 8, math.MinInt64), impl.ErrRange},
		{"a block 1 and a power of two", file(1, 8, 1<<32+1), impl.ErrRange},
		{"the last block -1", file(1, 32, 1, 2, 3, -1), impl.ErrRange},
		{"the last block 20", file(1, 32, 1, 2, 3, 20), impl.ErrRange},
		{"the first block 20", file(1, 32, 20, 2, 3, 4), impl.ErrRange},

		{"the same block twice", file(1, 9, 3, 3), impl.ErrTaken},
		{"block 0 twice", file(1, 9, 0, 0), impl.ErrTaken},
		{"the first as the last one", file(1, 32, 3, 4, 5, 3), impl.ErrTaken},
		{"the last two the same", file(1, 32, 3, 4, 5, 5), impl.ErrTaken},
		{"the middle two the same", file(1, 32, 3, 4, 4, 5), impl.ErrTaken},
		{"all the same", file(1, 32, 7, 7, 7, 7), impl.ErrTaken},
		{"neighbours", file(1, 32, 3, 4, 2, 5), impl.OK},
	}
}

func sixEntries() []impl.Entry {
	return []impl.Entry{entry("a", 1), entry("b", 2), entry("c", 3), entry("d", 4), entry("e", 5), entry("f", 6)}
}

func dirCases() []inodeCase {
	cases := []inodeCase{
		{"no entries", dir(), impl.OK},
		{"MaxEntries", dir(sixEntries()...), impl.OK},
		{"one more", dir(append(sixEntries(), entry("g", 7))...), impl.ErrMany},
		{"many more", dir(make([]impl.Entry, 70000)...), impl.ErrMany},

		{"an Inode -1", dir(entry("a", -1)), impl.ErrRange},
		{"an Inode 0", dir(entry("a", 0)), impl.OK},
		{"an Inode 9", dir(entry("a", 9)), impl.OK},
		{"an Inode 10", dir(entry("a", 10)), impl.ErrRange},
		{"an Inode far above", dir(entry("a", math.MaxInt64)), impl.ErrRange},
		{"an Inode far below", dir(entry("a", math.MinInt64)), impl.ErrRange},
		{"an Inode 1 and a power of two", dir(entry("a", 1<<32+1)), impl.ErrRange},
		{"the last Inode 10", dir(entry("a", 1), entry("b", 10)), impl.ErrRange},
		{"the first Inode 10", dir(entry("a", 10), entry("b", 1)), impl.ErrRange},

		{"names alike", dir(entry("a", 1), entry("a", 2)), impl.ErrForm},
		{"entries alike", dir(entry("abcd", 1), entry("abcd", 1)), impl.ErrForm},
		{"names alike, not side by side", dir(entry("a", 1), entry("b", 2), entry("a", 3)), impl.ErrForm},
		{"names that rise", dir(entry("a", 1), entry("b", 2)), impl.OK},
		{"names that fall", dir(entry("b", 1), entry("a", 2)), impl.ErrForm},
		{"the last two fall", dir(entry("a", 1), entry("c", 2), entry("b", 2)), impl.ErrForm},
		{"the last byte rises", dir(entry("abca", 1), entry("abcb", 2)), impl.OK},
		{"the last byte falls", dir(entry("abcb", 1), entry("abca", 2)), impl.ErrForm},
		{"the first byte rises, the others fall", dir(entry("azzz", 1), entry("baaa", 2)), impl.OK},
		{"the first byte falls, the others rise", dir(entry("baaa", 1), entry("azzz", 2)), impl.ErrForm},
		{"a beginning of the one behind", dir(entry("ab", 1), entry("abc", 2)), impl.OK},
		{"a beginning of the one ahead", dir(entry("abc", 1), entry("ab", 2)), impl.ErrForm},
		{"one byte of four behind", dir(entry("a", 1), entry("abcd", 2)), impl.OK},
		{"one byte of four ahead", dir(entry("abcd", 1), entry("a", 2)), impl.ErrForm},
		{"shorter and greater", dir(entry("abcd", 1), entry("b", 2)), impl.OK},
		{"longer and less", dir(entry("b", 1), entry("abcd", 2)), impl.ErrForm},
		{"Inodes fall, names rise", dir(entry("a", 9), entry("b", 1)), impl.OK},
		{"Inodes rise, names fall", dir(entry("b", 1), entry("a", 9)), impl.ErrForm},
	}
	for _, c := range nameCases() {
		cases = append(cases,
			inodeCase{c.what + ", as a name", dir(entry(c.text, 1)), c.code},
			inodeCase{c.what + ", as the first name", dir(entry(c.text, 1), entry("zzzz", 2)), c.code})
	}
	return cases
}

// inodesOfSeveral have more than one fault: which one comes first?
func inodesOfSeveral() []inodeCase {
	long, wrong := "abcde", "B"
	return []inodeCase{
		{"Kind ahead of Links", impl.Inode{Kind: 3, Links: 99}, impl.ErrForm},
		{"Kind ahead of many entries", impl.Inode{Kind: -1, Entries: make([]impl.Entry, 7)}, impl.ErrForm},
		{"an entry of a file ahead of Links", impl.Inode{Kind: 1, Entries: []impl.Entry{{}}}, impl.ErrForm},
		{"an entry of a file ahead of Size", impl.Inode{Kind: 1, Links: 1, Size: 33, Entries: []impl.Entry{{}}}, impl.ErrForm},
		{"many entries of a file", impl.Inode{Kind: 1, Links: 1, Entries: make([]impl.Entry, 7)}, impl.ErrForm},
		{"an entry of a file ahead of a block", impl.Inode{Kind: 1, Links: 1, Size: 1, Blocks: list(20), Entries: sixEntries()}, impl.ErrForm},
		{"Links of a directory ahead of many entries", impl.Inode{Kind: 2, Links: 1, Entries: make([]impl.Entry, 7)}, impl.ErrForm},
		{"Size of a directory ahead of a name", impl.Inode{Kind: 2, Size: 1, Entries: []impl.Entry{entry(wrong, 1)}}, impl.ErrForm},
		{"a block of a directory ahead of an Inode", impl.Inode{Kind: 2, Blocks: list(20), Entries: []impl.Entry{entry("a", 10)}}, impl.ErrForm},
		{"a block twice of a directory", impl.Inode{Kind: 2, Blocks: list(1, 1)}, impl.ErrForm},
		{"a block 20 of what is free", impl.Inode{Blocks: list(20)}, impl.ErrForm},

		{"Links ahead of how many blocks", file(0, 8), impl.ErrRange},
		{"Links above ahead of how many blocks", file(61, 0, 1), impl.ErrRange},
		{"Links ahead of the same block twice", file(0, 9, 1, 1), impl.ErrRange},
		{"Size ahead of how many blocks", file(1, 40, 1), impl.ErrRange},
		{"Size ahead of the same block twice", file(1, -9, 1, 1), impl.ErrRange},
		{"how many blocks ahead of a block", file(1, 8, 1, 20), impl.ErrForm},
		{"no bytes ahead of a block", file(1, 0, -1), impl.ErrForm},
		{"how many blocks ahead of the same twice", file(1, 8, 1, 1), impl.ErrForm},
		{"a block ahead of the same twice", file(1, 32, 1, 1, 2, 20), impl.ErrRange},
		{"the last block ahead of the same twice", file(1, 17, 1, 1, -1), impl.ErrRange},
		{"the same block twice, no place", file(1, 9, 20, 20), impl.ErrRange},

		{"how many ahead of a name", dir(append(sixEntries(), entry("G", 7))...), impl.ErrMany},
		{"how many ahead of an Inode", dir(append(sixEntries(), entry("g", 10))...), impl.ErrMany},
		{"how many ahead of names that fall", dir(append(sixEntries(), entry("a", 1))...), impl.ErrMany},
		{"how many ahead of the first name", dir(append([]impl.Entry{entry("", 7)}, sixEntries()...)...), impl.ErrMany},

		{"of one entry a byte ahead of its length", dir(entry("abcdE", 1)), impl.ErrText},
		{"of one entry the name ahead of Inode", dir(entry(wrong, 10)), impl.ErrText},
		{"of one entry the length ahead of Inode", dir(entry(long, 10)), impl.ErrMany},
		{"of one entry Inode ahead of the order", dir(entry("b", 1), entry("a", 10)), impl.ErrRange},
		{"of one entry the name ahead of the order", dir(entry("b", 1), entry("A", 1)), impl.ErrText},
		{"of one entry no name ahead of the order", dir(entry("b", 1), entry("", 1)), impl.ErrText},
		{"of one entry the length ahead of the order", dir(entry("b", 1), entry(long, 1)), impl.ErrMany},

		{"entry by entry: Inode, then a name", dir(entry("a", 10), entry(wrong, 1)), impl.ErrRange},
		{"entry by entry: a name, then Inode", dir(entry(wrong, 1), entry("a", 10)), impl.ErrText},
		{"entry by entry: a long name, then a byte", dir(entry(long, 1), entry(wrong, 1)), impl.ErrMany},
		{"entry by entry: a byte, then a long name", dir(entry(wrong, 1), entry(long, 1)), impl.ErrText},
		{"entry by entry: the order, then Inode", dir(entry("b", 1), entry("a", 1), entry("c", 10)), impl.ErrForm},
		{"entry by entry: the order, then a name", dir(entry("b", 1), entry("a", 1), entry(wrong, 1)), impl.ErrForm},
		{"entry by entry: Inode, then the order", dir(entry("b", 10), entry("a", 1)), impl.ErrRange},
		{"entry by entry: a long name, then the order", dir(entry("c", 1), entry("d"+long, 1), entry("a", 1)), impl.ErrMany},
	}
}

func allInodeCases() []inodeCase {
	cases := append(append(kindCases(), fileCases()...), dirCases()...)
	return append(cases, inodesOfSeveral()...)
}

func TestCodesOfInodes(t *testing.T) {
	for _, c := range allInodeCases() {
		wantCode(t, c.what+": InodeFault", impl.InodeFault(c.inode), c.code)
		packed := impl.PackInode(c.inode)
		wantCode(t, c.what+": PackInode", packed.Code, c.code)
		if c.code == impl.OK {
			wantInode(t, c.what, impl.UnpackInode(packed.List), c.inode)
		} else if !same(packed, impl.IntsResult{Code: c.code}) {
			t.Errorf("%s: PackInode: %v, not code %d alone", c.what, packed, c.code)
		}
	}
}

// An inode with a fault has no words: written down all the same they cannot
// be read. (Entries of what is no directory are not written down at all.)
func TestWordsOfFaults(t *testing.T) {
	for _, c := range allInodeCases() {
		words := modelWords(c.inode)
		lacking := c.inode.Kind != impl.KindDir && len(c.inode.Entries) > 0
		if c.code == impl.OK || lacking || len(words) > impl.MaxWords || anyOutside(words) {
			continue
		}
		wantNoInode(t, c.what, impl.UnpackInode(words), impl.ErrText)
	}
}

func anyOutside(words []int64) bool {
	for _, word := range words {
		if word < 0 || word > 65535 {
			return true
		}
	}
	return false
}

func TestCodesOfBlocksFor(t *testing.T) {
	for _, c := range []struct{ size, code, value int64 }{
		{math.MinInt64, impl.ErrRange, 0}, {-9, impl.ErrRange, 0}, {-8, impl.ErrRange, 0}, {-1, impl.ErrRange, 0},
		{0, impl.OK, 0}, {1, impl.OK, 1}, {7, impl.OK, 1}, {8, impl.OK, 1}, {9, impl.OK, 2}, {16, impl.OK, 2}, {17, impl.OK, 3},
		{24, impl.OK, 3}, {25, impl.OK, 4}, {31, impl.OK, 4}, {32, impl.OK, 4},
		{33, impl.ErrRange, 0}, {40, impl.ErrRange, 0}, {1 << 32, impl.ErrRange, 0}, {math.MaxInt64 - 6, impl.ErrRange, 0}, {math.MaxInt64, impl.ErrRange, 0},
	} {
		if r := impl.BlocksFor(c.size); r != (impl.IntResult{Code: c.code, Value: c.value}) {
			t.Errorf("BlocksFor %d: %v, not %d, %d", c.size, r, c.code, c.value)
		}
	}
}

type wordsCase struct {
	what  string
	words []int64
	code  int64
}

func wordsCases() []wordsCase {
	return []wordsCase{
		{"MaxWords words", fill(64, 0), impl.ErrText},
		{"one more", fill(65, 0), impl.ErrMany},
		{"many more", fill(70000, 0), impl.ErrMany},
		{"how many ahead of a word", append(fill(64, 0), -1), impl.ErrMany},
		{"how many ahead of the first word", append(list(65536), fill(64, 0)...), impl.ErrMany},
		{"a word -1", list(-1), impl.ErrRange},
		{"a word 0", list(0), impl.ErrText},
		{"a word 65535", list(65535), impl.ErrText},
		{"a word 65536", list(65536), impl.ErrRange},
		{"a word far above", list(0, 0, math.MaxInt64), impl.ErrRange},
		{"a word far below", list(0, math.MinInt64, 0), impl.ErrRange},
		{"the last word -1", list(1, 1, 8, -1), impl.ErrRange},
		{"the last word 65536", list(1, 1, 8, 65536), impl.ErrRange},
		{"the last of MaxWords -1", append(fill(63, 0), -1), impl.ErrRange},
		{"a word ahead of what cannot be read", list(9, 9, -1), impl.ErrRange},
		{"a word behind the end", list(1, 1, 0, -1), impl.ErrRange},
	}
}

func textWords() []wordsCase {
	var cases []wordsCase
	for what, words := range map[string][]int64{
		"one word":                          list(1),
		"two words":                         list(0, 0),
		"a file of two words":               list(1, 1),
		"a directory of three words":        list(2, 0, 0),
		"a free inode of four words":        list(0, 0, 0, 0),
		"Kind 3":                            list(3, 0, 0),
		"Kind 65535":                        list(65535, 0, 0),
		"Kind 256":                          list(256, 0, 0),
		"Kind 257":                          list(257, 1, 0),
		"free, with links":                  list(0, 1, 0),
		"free, with a size":                 list(0, 0, 1),
		"Links 0":                           list(1, 0, 0),
		"Links 61":                          list(1, 61, 0),
		"Links 65535":                       list(1, 65535, 0),
		"Size 33":                           list(1, 1, 33, 1, 2, 3, 4, 5),
		"a block behind no bytes":           list(1, 1, 0, 0),
		"a block too few":                   list(1, 1, 9, 4),
		"a block too many":                  list(1, 1, 9, 4, 2, 1),
		"a block 20":                        list(1, 1, 9, 4, 20),
		"a block twice":                     list(1, 1, 9, 4, 4),
		"a directory with links":            list(2, 1, 0, 0),
		"a directory with a size":           list(2, 0, 1, 0),
		"no entry, a word behind":           list(2, 0, 0, 0, 0),
		"an entry that is not there":        list(2, 0, 0, 1),
		"an entry of its inode alone":       list(2, 0, 0, 1, 3),
		"an entry without its byte":         list(2, 0, 0, 1, 3, 1),
		"an entry with a byte too few":      list(2, 0, 0, 1, 3, 2, 97),
		"an entry with a byte too many":     list(2, 0, 0, 1, 3, 1, 97, 97),
		"one entry, told as two":            list(2, 0, 0, 2, 3, 1, 97),
		"two entries, told as one":          list(2, 0, 0, 1, 3, 1, 97, 3, 1, 98),
		"no name":                           list(2, 0, 0, 1, 3, 0),
		"no name, a byte behind":            list(2, 0, 0, 1, 3, 0, 97),
		"a name of 5 bytes":                 list(2, 0, 0, 1, 3, 5, 97, 97, 97, 97, 97),
		"a name of 65535 bytes":             list(2, 0, 0, 1, 3, 65535, 97),
		"65535 entries":                     list(2, 0, 0, 65535, 3, 1, 97),
		"a byte ahead of a":                 list(2, 0, 0, 1, 3, 1, 96),
		"a byte behind z":                   list(2, 0, 0, 1, 3, 1, 123),
		"a byte A":                          list(2, 0, 0, 1, 3, 1, 65),
		"a byte 97 and 256":                 list(2, 0, 0, 1, 3, 1, 353),
		"a byte 97 and 65280":               list(2, 0, 0, 1, 3, 1, 65377),
		"the last byte 97 and 256":          list(2, 0, 0, 1, 3, 4, 97, 97, 97, 353),
		"an Inode 10":                       list(2, 0, 0, 1, 10, 1, 97),
		"an Inode 256":                      list(2, 0, 0, 1, 256, 1, 97),
		"names alike":                       list(2, 0, 0, 2, 1, 1, 97, 2, 1, 97),
		"names that fall":                   list(2, 0, 0, 2, 1, 1, 98, 2, 1, 97),
		"a beginning behind what is longer": list(2, 0, 0, 2, 1, 2, 97, 98, 2, 1, 97),
		"seven entries":                     list(2, 0, 0, 7, 9, 1, 97, 8, 1, 98, 7, 1, 99, 6, 1, 100, 5, 1, 101, 4, 1, 102, 4, 1, 103),
		"no words of MaxWords":              fill(64, 2),
		"a file of MaxWords":                fill(64, 1),
	} {
		cases = append(cases, wordsCase{what, words, impl.ErrText})
	}
	return cases
}

func TestCodesOfWords(t *testing.T) {
	for _, c := range append(wordsCases(), textWords()...) {
		wantNoInode(t, c.what, impl.UnpackInode(c.words), c.code)
	}
}

// A name may be long: its fault is the same however far its bytes go.
func TestLongNamesInInodes(t *testing.T) {
	for _, n := range []int{5, 6, 60, 257, 65537} {
		name := strings.Repeat("a", n)
		wantCode(t, "a long name", impl.InodeFault(dir(entry(name, 1))), impl.ErrMany)
		wantCode(t, "a long name that ends wrong", impl.InodeFault(dir(entry(name+"/", 1))), impl.ErrText)
	}
}
