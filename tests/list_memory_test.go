package tests

import (
	"math"
	"reflect"
	"strings"
	"testing"

	"loop.example/g00295/impl"
)

// checkListCalls asks all functions of chapter 11 for promise 1. Texts of items
// are asked for memory of their own as lists are.
func checkListCalls(t *testing.T, f impl.Fs, others []impl.Fs, places []int64) {
	t.Helper()
	told := checkCall(t, "ItemsOf", impl.ItemsOf, f)
	texts := textsOf(reflect.ValueOf(told))
	for i, a := range texts {
		if anyMeet(texts[i+1:], []span{a}) {
			t.Error("ItemsOf: two texts share memory")
		}
	}
	checkCall(t, "TreeText", impl.TreeText, f)
	checkCall(t, "SizeOf", impl.SizeOf, f)
	checkCall(t, "SameTrees", impl.SameTrees, f, f)
	for _, other := range others {
		checkCall(t, "SameTrees", impl.SameTrees, f, other)
		checkCall(t, "SameTrees", impl.SameTrees, other, f)
	}
	for _, at := range places {
		checkCall(t, "PathOf", impl.PathOf, f, at)
	}
}

// File systems whose lists have room behind their ends, share memory, are nil,
// or have faults.
func TestListsPromiseOne(t *testing.T) {
	all := memoryTrees()
	for i, f := range all {
		checkListCalls(t, f, []impl.Fs{all[(i+1)%len(all)], {}}, list(-1, 0, 1, 2, int64(len(f.Inodes))-1, int64(len(f.Inodes)), 10))
		if t.Failed() {
			t.Fatal("at file system ", i)
		}
	}
	for _, c := range walkTrees() {
		checkListCalls(t, c.fs, []impl.Fs{mostPaths().fs, all[4]}, upTo(11))
	}
	for _, c := range itemTrees() {
		checkListCalls(t, c.fs, []impl.Fs{c.fs}, upTo(11))
	}
}

func TestListsAtFarArguments(t *testing.T) {
	far := list(math.MinInt64, math.MinInt64+1, -1<<62, -1<<32, -1, 0, 2, 3, 1<<31, 1<<32, 1<<32+1, 1<<62, math.MaxInt64-1, math.MaxInt64)
	whole := tree(dir(entry("a", 1), entry("b", 2)), file(1, 9, 3, 4), dir())
	wide := tree(append(inodes(dir()), alike(3000, kind(0))...)...)
	for _, f := range []impl.Fs{whole, wide, {}, {Inodes: inodes(), Data: [][]byte{}}, {Data: emptyData(20)}, {Data: emptyData(3000)},
		{Inodes: inodes(impl.Inode{Kind: impl.KindDir, Blocks: []int64{}, Entries: []impl.Entry{}}), Data: emptyData(20)},
		{Inodes: inodes(impl.Inode{Kind: math.MinInt64, Links: math.MaxInt64, Size: math.MaxInt64}, file(math.MaxInt64, math.MinInt64)), Data: emptyData(20)}} {
		checkListCalls(t, f, []impl.Fs{whole, {}}, far)
	}
}

// Nil and empty lists are the same value, in what is asked and in what is
// answered.
func TestListsOfEmptyLists(t *testing.T) {
	a := impl.Fs{Inodes: inodes(dir(entry("a", 1), entry("b", 2)), file(1, 0), dir()), Data: make([][]byte, 20)}
	b := impl.Fs{Inodes: inodes(impl.Inode{Kind: 2, Blocks: []int64{}, Entries: []impl.Entry{entry("a", 1), entry("b", 2)}},
		impl.Inode{Kind: 1, Links: 1, Blocks: []int64{}, Entries: []impl.Entry{}}, impl.Inode{Kind: 2, Blocks: []int64{}, Entries: []impl.Entry{}}), Data: emptyData(20)}
	wantSameTrees(t, "nil and empty", a, b, true)
	wantItems(t, "empty", impl.ItemsOf(b), items(fileItem("/a", 1, nil), dirItem("/b")))
	wantItems(t, "no items", impl.ItemsOf(impl.Fs{Inodes: inodes(impl.Inode{Kind: 2, Entries: []impl.Entry{}}), Data: emptyData(20)}), nil)
}

// Names and bytes of the file system are pieces of one memory; what is told is
// none of it.
func TestListsThatShare(t *testing.T) {
	text := strings.Clone("/abcd/efgh/ab")
	long := []byte("abcdefghijkl")
	f := tree(dir(entry(text[1:5], 1)), dir(entry(text[11:13], 2), entry(text[6:10], 3)), file(1, 8, 3), file(1, 8, 4))
	f.Data[3], f.Data[4] = long[:8], long[1:9]
	checkListCalls(t, f, []impl.Fs{f, tree(dir())}, upTo(5))
	wantItems(t, "pieces", impl.ItemsOf(f), items(dirItem("/abcd"), fileItem("/abcd/ab", 1, []byte("abcdefgh")), fileItem("/abcd/efgh", 1, []byte("bcdefghi"))))
	two := tree(dir(entry("a", 1), entry("b", 1), entry("c", 1)), file(3, 8, 3))
	told := impl.ItemsOf(two).Items
	told[0].Bytes[0], told[1].Bytes[7] = 'X', 'Y'
	_ = append(told[2].Bytes[:1], 'Z')
	if string(told[0].Bytes) != "Xghijklm" || string(told[1].Bytes) != "fghijklY" || string(told[2].Bytes) != "fZhijklm" {
		t.Errorf("the bytes of one file by three names share: %v", told)
	}
	wantText(t, "written over", impl.TreeText(two), "/a file 3 8 fghijklm\n/b file 3 8 fghijklm\n/c file 3 8 fghijklm\n")
}

// Entries, inodes, blocks and bytes have room behind their ends, and what
// stands there is not told.
func TestListsDoNotSeeRoom(t *testing.T) {
	room := []impl.Entry{entry("a", 1), entry("b", 2), entry("c", 3), entry("d", 4)}
	f := tree(dir(room[:2]...), file(1, 9, 3, 4), dir(), file(1, 8, 5), dir())
	f.Inodes = f.Inodes[:3]
	f.Data[5] = f.Data[5][:0]
	f.Data[4] = append(make([]byte, 0, 20), 'n', 'x', 'x')[:1]
	checkListCalls(t, f, []impl.Fs{tree(dir(room[:2]...), file(1, 9, 7, 8), dir())}, upTo(6))
	wantItems(t, "room behind", impl.ItemsOf(f), items(fileItem("/a", 1, []byte("fghijklmn")), dirItem("/b")))
	wantSameTrees(t, "room behind", f, tree(dir(room[:2]...), file(1, 9, 7, 8), dir()), true)
	wantNumber(t, "room behind", impl.SizeOf(f), 9)
	wantNoText(t, "an inode in the room", impl.PathOf(f, 3), impl.ErrRange)
}

// What is done with one answer is not seen in the next one.
func TestListsByTurns(t *testing.T) {
	c := namedItems()[3]
	for range 2 {
		told := impl.ItemsOf(c.fs)
		wantItems(t, "by turns", told, c.items)
		for i := range told.Items {
			for j := range told.Items[i].Bytes {
				told.Items[i].Bytes[j]++
			}
			told.Items[i] = impl.Item{Path: "x"}
		}
		_ = append(told.Items[:1], impl.Item{})
		wantText(t, "by turns", impl.PathOf(c.fs, 3), "/a")
		wantNumber(t, "by turns", impl.SizeOf(c.fs), 9)
		wantText(t, "by turns", impl.TreeText(c.fs), modelLines(c.items))
		if !same(c.fs, namedItems()[3].fs) {
			t.Error(c.fs)
		}
	}
}
