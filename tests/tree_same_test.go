package tests

import (
	"testing"

	"loop.example/g00295/impl"
)

func wantSameFs(t *testing.T, what string, a, b impl.Fs, want bool) {
	t.Helper()
	if impl.SameFs(a, b) != want || impl.SameFs(b, a) != want {
		t.Errorf("%s: SameFs of %v and %v is not %v", what, a, b, want)
	}
}

// Of any two the one is the other only where both stand at one place.
func TestSameFsOfWhole(t *testing.T) {
	all := append(wholeTrees(), brokenTrees()...)
	others := append(wholeTrees(), brokenTrees()...)
	for i := range all {
		wantSameFs(t, all[i].what+", itself", all[i].fs, all[i].fs, true)
		for j := range others {
			wantSameFs(t, all[i].what+", "+others[j].what, all[i].fs, others[j].fs, i == j)
		}
	}
}

// SameFs asks for no fault: it holds any two against each other.
func TestSameFsOfOneThing(t *testing.T) {
	full := func() impl.Fs {
		return impl.Fs{
			Inodes: inodes(impl.Inode{Kind: 7, Links: -1, Size: 99, Blocks: list(5, 300), Entries: []impl.Entry{entry("b", 1), entry("A/", -4)}},
				kind(0), file(1, 9, 3, 4), dir(entry("a", 1))),
			Data: [][]byte{[]byte("abcdefghijk"), nil, []byte("x"), {}, []byte("yz")},
		}
	}
	wantSameFs(t, "all is the same", full(), full(), true)
	for what, turn := range map[string]func(*impl.Fs){
		"the first inode's Kind":       func(f *impl.Fs) { f.Inodes[0].Kind = 6 },
		"the first inode's Links":      func(f *impl.Fs) { f.Inodes[0].Links = 1 },
		"the first inode's Size":       func(f *impl.Fs) { f.Inodes[0].Size = 98 },
		"a block of the first inode":   func(f *impl.Fs) { f.Inodes[0].Blocks[1] = 301 },
		"a name of the first inode":    func(f *impl.Fs) { f.Inodes[0].Entries[1].Name = "A" },
		"an entry's inode":             func(f *impl.Fs) { f.Inodes[0].Entries[0].Inode = 2 },
		"the last inode's Kind":        func(f *impl.Fs) { f.Inodes[3].Kind = 0 },
		"the last inode's entries":     func(f *impl.Fs) { f.Inodes[3].Entries = nil },
		"a file's Links":               func(f *impl.Fs) { f.Inodes[2].Links = 2 },
		"a file's Size":                func(f *impl.Fs) { f.Inodes[2].Size = 10 },
		"a file's Blocks":              func(f *impl.Fs) { f.Inodes[2].Blocks[0], f.Inodes[2].Blocks[1] = 4, 3 },
		"one inode fewer":              func(f *impl.Fs) { f.Inodes = f.Inodes[:3] },
		"the first inode gone":         func(f *impl.Fs) { f.Inodes = f.Inodes[1:] },
		"a free inode more":            func(f *impl.Fs) { f.Inodes = append(f.Inodes, kind(0)) },
		"no inodes":                    func(f *impl.Fs) { f.Inodes = nil },
		"inodes in another order":      func(f *impl.Fs) { f.Inodes[1], f.Inodes[2] = f.Inodes[2], f.Inodes[1] },
		"the first byte":               func(f *impl.Fs) { f.Data[0][0] = 'b' },
		"the last byte of the first":   func(f *impl.Fs) { f.Data[0][10] = 0 },
		"the last byte":                func(f *impl.Fs) { f.Data[4][1] = 'y' },
		"one byte fewer":               func(f *impl.Fs) { f.Data[4] = f.Data[4][:1] },
		"one byte more":                func(f *impl.Fs) { f.Data[2] = append(f.Data[2], 0) },
		"a byte 0 where there is none": func(f *impl.Fs) { f.Data[1] = []byte{0} },
		"no bytes where there are":     func(f *impl.Fs) { f.Data[2] = nil },
		"one block fewer":              func(f *impl.Fs) { f.Data = f.Data[:4] },
		"an empty block more":          func(f *impl.Fs) { f.Data = append(f.Data, nil) },
		"the first block gone":         func(f *impl.Fs) { f.Data = f.Data[1:] },
		"no Data":                      func(f *impl.Fs) { f.Data = nil },
		"blocks in another order":      func(f *impl.Fs) { f.Data[2], f.Data[4] = f.Data[4], f.Data[2] },
		"bytes cut elsewhere":          func(f *impl.Fs) { f.Data[0], f.Data[2] = []byte("abcdefghij"), []byte("kx") },
	} {
		other := full()
		turn(&other)
		wantSameFs(t, what, full(), other, false)
		wantSameFs(t, what+", itself", other, other, true)
	}
}

func TestSameFsOfEmptyLists(t *testing.T) {
	wantSameFs(t, "nil and empty", impl.Fs{}, impl.Fs{Inodes: inodes(), Data: [][]byte{}}, true)
	wantSameFs(t, "no Data and an empty block", impl.Fs{}, impl.Fs{Data: [][]byte{nil}}, false)
	wantSameFs(t, "no inodes and a free one", impl.Fs{}, impl.Fs{Inodes: inodes(kind(0))}, false)
	a := impl.Fs{Inodes: inodes(dir(), impl.Inode{Blocks: list(), Entries: []impl.Entry{}}), Data: make([][]byte, 20)}
	b := impl.Fs{Inodes: inodes(impl.Inode{Kind: 2, Blocks: list(), Entries: []impl.Entry{}}, kind(0)), Data: emptyData(20)}
	wantSameFs(t, "nil in place of empty lists", a, b, true)
	wantSameFs(t, "room behind the ends", impl.Fs{Data: [][]byte{[]byte("ab")[:1]}}, impl.Fs{Data: [][]byte{[]byte("ac")[:1]}}, true)
}
