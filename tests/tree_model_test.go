package tests

import (
	"fmt"
	"testing"

	"loop.example/g00295/impl"
)

// visit counts how often a place is met from a directory on, going down only
// where it is met for the first time.
func visit(all []impl.Inode, at int64, met *[10]int64) {
	for _, e := range all[at].Entries {
		met[e.Inode]++
		if met[e.Inode] == 1 && e.Inode != 0 {
			visit(all, e.Inode, met)
		}
	}
}

// modelTreeCode is the code of what stands behind the entries: what is there
// is met as often as it says, from the top on, and has just its bytes.
func modelTreeCode(f impl.Fs) int64 {
	var met [10]int64
	visit(f.Inodes, 0, &met)
	var due [20]int
	for at, x := range f.Inodes {
		want := met[at]
		switch {
		case at == 0:
			want = 0
		case x.Kind == impl.KindDir:
			want = 1
		case x.Kind == impl.KindFile:
			want = x.Links
		}
		if met[at] != want {
			return impl.ErrForm
		}
		for place := range x.Size {
			due[x.Blocks[place/8]]++
		}
	}
	for at, held := range f.Data {
		if len(held) != due[at] {
			return impl.ErrForm
		}
	}
	return impl.OK
}

// modelReachCode is the code of all that comes ahead, in order.
func modelReachCode(f impl.Fs) int64 {
	if len(f.Inodes) > 10 {
		return impl.ErrMany
	}
	for _, x := range f.Inodes {
		if code := impl.InodeFault(x); code != impl.OK {
			return code
		}
	}
	if len(f.Inodes) == 0 || f.Inodes[0].Kind != impl.KindDir || len(f.Data) != 20 {
		return impl.ErrForm
	}
	for _, held := range f.Data {
		if len(held) > 8 {
			return impl.ErrMany
		}
	}
	if _, twice := modelUsed(f.Inodes); twice {
		return impl.ErrTaken
	}
	for _, x := range f.Inodes {
		for _, e := range x.Entries {
			if e.Inode >= int64(len(f.Inodes)) || f.Inodes[e.Inode].Kind == impl.KindFree {
				return impl.ErrNone
			}
		}
	}
	return impl.OK
}

// checkTree holds a file system against the model, and gives its code.
func checkTree(t *testing.T, what string, f impl.Fs) int64 {
	t.Helper()
	if code := modelReachCode(f); code != impl.OK {
		wantReachCode(t, what, f, code)
		return code
	}
	code := modelTreeCode(f)
	wantWholeCode(t, what, f, code)
	if code != impl.OK {
		return code
	}
	reach := impl.ReachOf(f).List
	for at, x := range f.Inodes {
		if (x.Kind == impl.KindFree) == among(reach, int64(at)) {
			t.Errorf("%s: it is whole, and %d is free and reached, or neither", what, at)
		}
	}
	return code
}

// graph is three directories and a file; each bit of the set tells whether one
// names another.
func graph(set int, links int64) []impl.Inode {
	all := append(alike(3, dir()), file(links, 9, 12, 4))
	for bit := range 12 {
		if set>>bit&1 == 1 {
			from, to := bit/4, bit%4
			all[from].Entries = append(all[from].Entries, entry(string(rune('a'+to)), int64(to)))
		}
	}
	return all
}

// Three directories and a file: every way in which they can name each other.
func TestEachGraph(t *testing.T) {
	whole := 0
	for set := range 1 << 12 {
		for links := int64(1); links < 4; links++ {
			all := graph(set, links)
			if checkTree(t, fmt.Sprint(all), tree(all...)) == impl.OK {
				whole++
			}
		}
	}
	// Three shapes of the directories (a chain of one, a chain of the other,
	// both in the top), each with seven sets of those that name the file.
	if whole != 21 {
		t.Errorf("%d of them are whole, not 21", whole)
	}
}

// Each place alone may be anything.
func TestEachKindAtEachPlace(t *testing.T) {
	for _, c := range allInodeCases() {
		for at := range 4 {
			f := tree(dir(entry("a", 1), entry("b", 2)), dir(entry("a", 3)), file(1, 9, 3, 4), dir())
			f.Inodes[at] = c.inode
			checkTree(t, fmt.Sprint(c.what, " at ", at), f)
		}
	}
}

// diceTree grows a whole tree: each new inode stands at a place of no other,
// and is named by a directory that is there.
func diceTree(d *dice) impl.Fs {
	size := 1 + d.below(10)
	all := alike(int(size), kind(0))
	all[0] = dir()
	left := diceOrder(d)
	dirs := list(0)
	for at := int64(1); at < size; at++ {
		if d.below(5) == 0 {
			continue
		}
		if d.below(3) == 0 {
			all[at] = dir()
			if !diceName(d, all, dirs, at) {
				all[at] = kind(0)
				continue
			}
			dirs = append(dirs, at)
			continue
		}
		bytes := d.below(33)
		need := min((bytes+7)/8, int64(len(left)))
		all[at] = file(0, min(bytes, need*8), left[:need]...)
		left = left[need:]
		diceLinks(d, all, dirs, at, 1+d.below(3))
	}
	return tree(all...)
}

// diceLinks gives a file up to so many names; without any it is free.
func diceLinks(d *dice, all []impl.Inode, dirs []int64, at, most int64) {
	for range most {
		if diceName(d, all, dirs, at) {
			all[at].Links++
		}
	}
	if all[at].Links == 0 {
		all[at] = kind(0)
	}
}

// diceName gives an inode a name in one of the directories, if there is room.
func diceName(d *dice, all []impl.Inode, dirs []int64, at int64) bool {
	in := &all[dirs[d.below(int64(len(dirs)))]]
	if len(in.Entries) == 6 {
		return false
	}
	name := "a"
	if n := len(in.Entries); n > 0 {
		name = in.Entries[n-1].Name
		if len(name) < 4 && d.below(2) == 0 {
			name += string(rune('a' + d.below(26)))
		} else {
			name = string(name[0]+1) + string(rune('a'+d.below(26)))
		}
	}
	in.Entries = append(in.Entries, entry(name, at))
	return true
}

// diceFault turns one thing of a file system.
func diceFault(d *dice, f *impl.Fs) {
	x := &f.Inodes[d.below(int64(len(f.Inodes)))]
	block := d.below(int64(len(f.Data)))
	switch d.below(9) {
	case 0:
		x.Links += d.below(3) - 1
	case 1:
		if n := int64(len(x.Entries)); n > 0 {
			x.Entries[d.below(n)].Inode = d.below(11)
		}
	case 2:
		if n := int64(len(x.Blocks)); n > 0 {
			x.Blocks[d.below(n)] = d.below(21)
		}
	case 3:
		f.Data[block] = append(f.Data[block], 'x')
	case 4:
		if n := len(f.Data[block]); n > 0 {
			f.Data[block] = f.Data[block][:n-1]
		}
	case 5:
		if n := len(x.Entries); n > 0 {
			x.Entries = x.Entries[:n-1]
		} else if x.Kind == impl.KindDir {
			x.Entries = []impl.Entry{entry("x", d.below(10))}
		}
	case 6:
		*x = inodes(kind(0), dir(), file(1, 0))[d.below(3)]
	case 7:
		f.Inodes = append(f.Inodes, inodes(kind(0), dir(), file(1, 0))[d.below(3)])
	case 8:
		x.Size += d.below(3) - 1
	}
}

func TestTreesAgainstModel(t *testing.T) {
	d := dice(7)
	var count [11]int
	for range 6000 {
		f := diceTree(&d)
		if code := checkTree(t, "a whole one", f); code != impl.OK {
			t.Fatal(code, f)
		}
		for range d.below(4) {
			diceFault(&d, &f)
			count[checkTree(t, fmt.Sprint(f), f)]++
		}
		if t.Failed() {
			t.FailNow()
		}
	}
	for _, code := range []int{impl.OK, impl.ErrForm, impl.ErrMany, impl.ErrRange, impl.ErrNone, impl.ErrTaken} {
		if count[code] == 0 {
			t.Errorf("no file system had code %d: %v", code, count)
		}
	}
}

// In whole trees the bytes of a file are those that were put there.
func TestBytesAgainstModel(t *testing.T) {
	d := dice(8)
	for range 2000 {
		f := diceTree(&d)
		for at, x := range f.Inodes {
			if x.Kind != impl.KindFile {
				continue
			}
			if r := impl.BytesIn(f, int64(at)); !same(r, impl.BytesResult{Bytes: textOf(at, x.Size)}) {
				t.Fatalf("BytesIn %d of %v: %v", at, f, r)
			}
		}
	}
}
