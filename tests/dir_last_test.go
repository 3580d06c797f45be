package tests

import (
	"fmt"
	"slices"
	"testing"

	"loop.example/g00295/impl"
)

// A drop, and what comes of it, written by hand.
type dropCase struct {
	what   string
	before []impl.Inode
	in     int64
	name   string
	after  []impl.Inode
}

func lastLinks() []dropCase {
	return []dropCase{
		{"one name", inodes(dir(entry("a", 1)), file(1, 9, 7, 3)), 0, "a", inodes(dir(), kind(0))},
		{"one name, no bytes", inodes(dir(entry("a", 1)), file(1, 0)), 0, "a", inodes(dir(), kind(0))},
		{"one name, beside another file", inodes(dir(entry("a", 1), entry("b", 2)), file(1, 9, 7, 3), file(1, 9, 2, 6)), 0, "a",
			inodes(dir(entry("b", 2)), kind(0), file(1, 9, 2, 6))},
		{"one name, in a directory below", inodes(dir(entry("a", 1), entry("b", 3)), dir(entry("a", 2)), file(1, 32, 0, 19, 4, 5), file(1, 1, 1)), 1, "a",
			inodes(dir(entry("a", 1), entry("b", 3)), dir(), kind(0), file(1, 1, 1))},
		{"one name, at the last place of ten", slices.Concat(inodes(dir(entry("a", 9))), alike(8, kind(0)), inodes(file(1, 8, 19))), 0, "a",
			append(inodes(dir()), alike(9, kind(0))...)},
		{"two names in one directory", inodes(dir(entry("a", 1), entry("b", 1)), file(2, 9, 7, 3)), 0, "a", inodes(dir(entry("b", 1)), file(1, 9, 7, 3))},
		{"two names in one directory, the other", inodes(dir(entry("a", 1), entry("b", 1)), file(2, 9, 7, 3)), 0, "b", inodes(dir(entry("a", 1)), file(1, 9, 7, 3))},
		{"two names in two directories", inodes(dir(entry("a", 1), entry("b", 2)), file(2, 9, 7, 3), dir(entry("c", 1))), 0, "a",
			inodes(dir(entry("b", 2)), file(1, 9, 7, 3), dir(entry("c", 1)))},
		{"two names in two directories, the other", inodes(dir(entry("a", 1), entry("b", 2)), file(2, 9, 7, 3), dir(entry("c", 1))), 2, "c",
			inodes(dir(entry("a", 1), entry("b", 2)), file(1, 9, 7, 3), dir())},
		{"three names in one directory", inodes(dir(entry("a", 1), entry("b", 1), entry("c", 1)), file(3, 9, 7, 3)), 0, "b",
			inodes(dir(entry("a", 1), entry("c", 1)), file(2, 9, 7, 3))},
		{"three names in three directories", inodes(dir(entry("a", 1), entry("b", 2), entry("c", 3)), file(3, 9, 7, 3), dir(entry("a", 1)), dir(entry("a", 1))), 3, "a",
			inodes(dir(entry("a", 1), entry("b", 2), entry("c", 3)), file(2, 9, 7, 3), dir(entry("a", 1)), dir())},
		{"1 link, two entries", inodes(dir(entry("a", 1), entry("b", 1)), file(1, 9, 7, 3)), 0, "a", inodes(dir(entry("b", 1)), file(1, 9, 7, 3))},
		{"1 link, three entries in three", inodes(dir(entry("a", 1), entry("b", 2), entry("c", 3)), file(1, 9, 7, 3), dir(entry("a", 1)), dir(entry("a", 1))), 0, "a",
			inodes(dir(entry("b", 2), entry("c", 3)), file(1, 9, 7, 3), dir(entry("a", 1)), dir(entry("a", 1)))},
		{"1 link, the other entry in what cannot be reached", inodes(dir(entry("a", 1)), file(1, 9, 7, 3), dir(entry("a", 1))), 0, "a",
			inodes(dir(), file(1, 9, 7, 3), dir(entry("a", 1)))},
		{"2 links, three entries", inodes(dir(entry("a", 1), entry("b", 1), entry("c", 1)), file(2, 9, 7, 3)), 0, "a",
			inodes(dir(entry("b", 1), entry("c", 1)), file(1, 9, 7, 3))},
		{"2 links, one entry", inodes(dir(entry("a", 1)), file(2, 9, 7, 3)), 0, "a", inodes(dir(), file(1, 9, 7, 3))},
		{"60 links, one entry", inodes(dir(entry("a", 1)), file(60, 9, 7, 3)), 0, "a", inodes(dir(), file(59, 9, 7, 3))},
		{"4 links, two entries", inodes(dir(entry("a", 1), entry("b", 1)), file(4, 9, 7, 3)), 0, "b", inodes(dir(entry("a", 1)), file(3, 9, 7, 3))},
		{"an empty directory", inodes(dir(entry("a", 1)), dir()), 0, "a", inodes(dir(), dir())},
		{"a directory with entries", inodes(dir(entry("a", 1)), dir(entry("b", 2)), file(1, 8, 3)), 0, "a", inodes(dir(), dir(entry("b", 2)), file(1, 8, 3))},
		{"a directory with two names", inodes(dir(entry("a", 1), entry("b", 1)), dir(entry("b", 2)), file(1, 8, 3)), 0, "a",
			inodes(dir(entry("b", 1)), dir(entry("b", 2)), file(1, 8, 3))},
		{"a directory, of itself", inodes(dir(entry("a", 1)), dir(entry("a", 1), entry("b", 2)), file(1, 8, 3)), 1, "a",
			inodes(dir(entry("a", 1)), dir(entry("b", 2)), file(1, 8, 3))},
		{"the top, of itself", inodes(dir(entry("a", 0))), 0, "a", inodes(dir())},
		{"the top, from below", inodes(dir(entry("a", 1)), dir(entry("a", 0))), 1, "a", inodes(dir(entry("a", 1)), dir())},
	}
}

func TestLastLink(t *testing.T) {
	for _, c := range lastLinks() {
		f, want := tree(c.before...), tree(c.after...)
		// A file that stays has the same bytes in both, since it keeps its place.
		wantFs(t, c.what, impl.DropName(f, c.in, c.name), want)
		checkNameDropped(t, c.what, f, c.in, c.name)
	}
}

// A file is there as long as it has a name, and loses one link with each.
func TestLinksOneByOne(t *testing.T) {
	all := inodes(dir(entry("a", 3), entry("b", 1), entry("c", 3), entry("d", 2)), dir(entry("a", 3), entry("b", 3)), dir(entry("a", 3)), file(5, 17, 4, 2, 9))
	// The name "a" of 2 is told as "x", since 0 has one, too.
	where := map[string]int64{"a": 0, "c": 0, "b": 1, "x": 2}
	for _, order := range orders(names("a", "c", "b", "x")) {
		f := checkNameDropped(t, "in 1", tree(all...), 1, "a")
		for i, name := range order {
			in := where[name]
			if name == "x" {
				name = "a"
			}
			wantBytes(t, "it is there", impl.BytesIn(f, 3), textOf(3, 17))
			if f.Inodes[3].Links != int64(4-i) {
				t.Errorf("%v: Links are %d, not %d", order, f.Inodes[3].Links, 4-i)
			}
			f = checkNameDropped(t, fmt.Sprint(order), f, in, name)
		}
		wantFs(t, fmt.Sprint(order), impl.FsResult{Fs: f}, tree(dir(entry("b", 1), entry("d", 2)), dir(), dir(), kind(0)))
		wantCode(t, "FsFault", impl.FsFault(f), impl.OK)
	}
}

// Links from 1 to 60 beside one to six entries: the last entry frees the file
// just where it takes the last link.
func TestLinksBesideEntries(t *testing.T) {
	for entries := int64(1); entries < 7; entries++ {
		for links := int64(1); links < 61; links++ {
			f := tree(dir(), file(links, 9, 7, 3))
			for _, e := range sixEntries()[:entries] {
				f.Inodes[0].Entries = append(f.Inodes[0].Entries, entry(e.Name, 1))
			}
			for left := entries - 1; left >= 0; left-- {
				f = checkNameDropped(t, fmt.Sprint(links, " links, ", entries, " entries"), f, 0, sixEntries()[left].Name)
				want := max(1, links-(entries-left))
				if left == 0 && links <= entries {
					want = 0
				}
				if f.Inodes[1].Links != want || (f.Inodes[1].Kind == impl.KindFree) != (want == 0) {
					t.Errorf("%d links, %d of %d entries left: %v", links, left, entries, f.Inodes[1])
				}
			}
		}
	}
}

// A file that goes takes the bytes of its own blocks, whatever these are, and
// no others.
func TestBytesThatGo(t *testing.T) {
	for own := range int64(9) {
		for others := range int64(9) {
			f := tree(dir(entry("a", 1), entry("b", 2)), file(1, 20, 3, 19, 0), file(2, 9, 1, 2))
			for at := range f.Data {
				f.Data[at] = freshText(others)
			}
			for _, at := range list(3, 19, 0) {
				f.Data[at] = freshText(own)
			}
			r := impl.DropName(f, 0, "a")
			for at, held := range r.Fs.Data {
				want := freshText(others)
				if among(list(3, 19, 0), int64(at)) {
					want = nil
				}
				wantBytes(t, fmt.Sprint("block ", at), impl.BytesResult{Bytes: held}, want)
			}
			r = impl.DropName(f, 0, "b")
			if r.Code != impl.OK || !same(r.Fs.Data, f.Data) {
				t.Errorf("a file that stays loses bytes: %v", r)
			}
		}
	}
}

// A place that was freed takes no name, until something is there again.
func TestNameOfWhatWent(t *testing.T) {
	f := impl.DropName(tree(dir(entry("a", 1)), file(1, 9, 7, 3)), 0, "a").Fs
	wantNoFs(t, "AddName of what is free", impl.AddName(f, 0, "a", 1), impl.ErrNone)
	wantNumber(t, "FreeInode", impl.FreeInode(f.Inodes), 1)
	wantWords(t, "UsedBlocks", impl.UsedBlocks(f.Inodes), nil)
	f.Inodes[1] = dir()
	checkNameAdded(t, "a directory in its place", f, 0, "a", 1)
}
