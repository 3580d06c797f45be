package tests

import (
	"testing"

	"loop.example/g00295/impl"
)

// diceList is up to MaxInodes inodes without a fault; of files that want a
// block which is taken, as whole says, none or all the same.
func diceList(d *dice, whole bool) []impl.Inode {
	var list []impl.Inode
	left := diceOrder(d)
	for range d.below(11) {
		x := impl.Inode{Kind: d.below(3)}
		switch x.Kind {
		case impl.KindFile:
			if !whole {
				left = diceOrder(d)
			}
			n := min(d.below(5), int64(len(left)))
			x = file(1+d.below(60), n*8, left[:n]...)
			left = left[n:]
		case impl.KindDir:
			for name := byte('a'); name < byte('a'+d.below(7)); name++ {
				x.Entries = append(x.Entries, entry(string(name), d.below(10)))
			}
		}
		list = append(list, x)
	}
	return list
}

// diceOrder is all blocks in some order.
func diceOrder(d *dice) []int64 {
	list := upTo(20)
	for i := range list {
		j := d.below(int64(i) + 1)
		list[i], list[j] = list[j], list[i]
	}
	return list
}

func diceBusy(d *dice) []int64 {
	var busy []int64
	for range d.below(21) {
		busy = append(busy, d.below(20))
	}
	return busy
}

// modelUsed tells how many files have each block.
func modelUsed(all []impl.Inode) (used []int64, twice bool) {
	var count [20]int
	for _, x := range all {
		for _, at := range x.Blocks {
			count[at]++
		}
	}
	for at, n := range count {
		if n > 0 {
			used = append(used, int64(at))
		}
		twice = twice || n > 1
	}
	return used, twice
}

func modelLinks(all []impl.Inode, at int64) int64 {
	var links int64
	for _, x := range all {
		for _, e := range x.Entries {
			if e.Inode == at {
				links++
			}
		}
	}
	return links
}

func checkList(t *testing.T, all []impl.Inode, busy []int64) (full bool) {
	t.Helper()
	used, twice := modelUsed(all)
	if twice {
		wantNoWords(t, "UsedBlocks", impl.UsedBlocks(all), impl.ErrTaken)
	} else {
		wantWords(t, "UsedBlocks", impl.UsedBlocks(all), used)
	}
	checkFree(t, "some", all, used, busy)
	first := int64(len(all))
	for at := len(all) - 1; at >= 0; at-- {
		if all[at].Kind == impl.KindFree {
			first = int64(at)
		}
		wantNumber(t, "LinksOf", impl.LinksOf(all, int64(at)), modelLinks(all, int64(at)))
	}
	if first == 10 {
		wantNoNumber(t, "FreeInode", impl.FreeInode(all), impl.ErrFull)
		return true
	}
	wantNumber(t, "FreeInode", impl.FreeInode(all), first)
	return false
}

func TestFreeAgainstModel(t *testing.T) {
	d := dice(5)
	full := 0
	for i := range 3000 {
		all := diceList(&d, i%3 > 0)
		for _, x := range all {
			wantCode(t, "InodeFault", impl.InodeFault(x), impl.OK)
		}
		if checkList(t, all, diceBusy(&d)) {
			full++
		}
	}
	if full == 0 {
		t.Error("no list had MaxInodes and none that is free")
	}
}

// What is picked and then had by a file is not picked again, until there is no
// room.
func TestPickedOnceAlone(t *testing.T) {
	d := dice(6)
	for range 300 {
		busy := diceBusy(&d)
		all := inodes(dir())
		for len(all) < 10 {
			n := 1 + d.below(4)
			r := impl.PickBlocks(all, busy, n)
			if r.Code != impl.OK {
				wantNoWords(t, "PickBlocks", r, impl.ErrFull)
				break
			}
			all = append(all, file(1, n*8, r.List...))
			used := impl.UsedBlocks(all)
			wantCode(t, "UsedBlocks of what was picked", used.Code, impl.OK)
			for _, at := range busy {
				if among(used.List, at) {
					t.Errorf("block %d is picked though it is busy", at)
				}
			}
		}
	}
}
