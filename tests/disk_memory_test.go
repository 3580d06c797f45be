package tests

import (
	"math"
	"testing"

	"loop.example/g00295/impl"
)

// sharedDisk has lists that lie in one memory, with room behind their ends.
func sharedDisk() impl.Disk {
	words := list(1, 2, 3, 4, 5, 6, 7, 8)
	blocks := [][]int64{words[:2], words[:2], words[2:2], {9}, words[3:5]}
	puts := []impl.Put{{At: 0, Words: words[1:3]}, {At: 1, Words: words[1:3]}, {At: 0, Words: words[6:]}, {At: 2, Words: words[:0]}, {At: 4, Words: list(5)}}
	return impl.Disk{Blocks: blocks[:4], Cache: puts[:4]}
}

func memoryDisks() []diskCase {
	return append(allDisks(),
		diskCase{"lists that share memory", sharedDisk(), impl.OK},
		diskCase{"a block twice in Cache", impl.Disk{Blocks: [][]int64{{1}, {2}}, Cache: []impl.Put{{At: 1, Words: list(3)}, {At: 1, Words: list(4, 5)}}}, impl.OK},
		diskCase{"empty lists of room", impl.Disk{Blocks: make([][]int64, 0, 5), Cache: make([]impl.Put, 0, 5)}, impl.OK},
		diskCase{"blocks of room", impl.Disk{Blocks: [][]int64{make([]int64, 0, 3), make([]int64, 1, 9)}, Cache: []impl.Put{{Words: make([]int64, 0, 3)}}}, impl.OK},
	)
}

func TestDiskPromiseOne(t *testing.T) {
	many := make([]bool, 201, 300)
	for i := range many {
		many[i] = i%3 != 0
	}
	spare := fill(9, 7)
	for _, c := range memoryDisks() {
		if code := checkCall(t, c.what+": DiskFault", impl.DiskFault, c.disk); code != c.code {
			t.Errorf("%s: DiskFault %v, not %d", c.what, code, c.code)
		}
		checkCall(t, c.what+": FlushDisk", impl.FlushDisk, c.disk)
		for _, picks := range [][]bool{nil, {}, {true}, {false, true}, many} {
			checkCall(t, c.what+": CrashDisk", impl.CrashDisk, c.disk, picks)
		}
		for _, at := range []int64{math.MinInt64, -1, 0, 1, 2, 59, 60, math.MaxInt64} {
			checkCall(t, c.what+": BlockAt", impl.BlockAt, c.disk, at)
			for _, words := range [][]int64{nil, {}, spare[:0], spare[:2], fill(64, 65535), fill(65, 0), list(-1)} {
				checkCall(t, c.what+": PutBlock", impl.PutBlock, c.disk, at, words)
			}
		}
	}
	for _, size := range []int64{math.MinInt64, -1, 0, 1, 60, 61, math.MaxInt64} {
		checkCall(t, "NewDisk", impl.NewDisk, size)
	}
}

// The words of an argument may be the very list of another one.
func TestArgumentsThatShare(t *testing.T) {
	d := sharedDisk()
	checkCall(t, "words of a block", impl.PutBlock, d, int64(1), d.Blocks[0])
	checkCall(t, "words of the cache", impl.PutBlock, d, int64(1), d.Cache[0].Words)
	r := impl.PutBlock(d, 1, d.Blocks[0][:1:2])
	r.Disk.Blocks[0][0] = 40
	r.Disk.Cache[4].Words[0] = 41
	wantDisk(t, "the argument", d, sharedDisk())
}

// What comes of a disk does not hang on the room that its lists have.
func TestRoomIsNotSeen(t *testing.T) {
	tight := impl.Disk{
		Blocks: [][]int64{{1, 2}, {1, 2}, {}, {9}},
		Cache:  []impl.Put{{At: 0, Words: list(2, 3)}, {At: 1, Words: list(2, 3)}, {At: 0, Words: list(7, 8)}, {At: 2}},
	}
	roomy := sharedDisk()
	picks := []bool{true, false, false, true}
	wantDisk(t, "PutBlock", put(t, roomy, 3, 4), put(t, tight, 3, 4))
	wantDisk(t, "FlushDisk", flush(t, roomy), flush(t, tight))
	wantDisk(t, "CrashDisk", crash(t, roomy, picks...), crash(t, tight, picks...))
	for at := range int64(4) {
		wantRead(t, "BlockAt", roomy, at, impl.BlockAt(tight, at).List...)
	}
}

// Nothing is kept from call to call: disks worked on by turns do not meet.
func TestDisksByTurns(t *testing.T) {
	a, b := newDisk(t, 2), newDisk(t, 2)
	a = put(t, a, 0, 1)
	b = put(t, b, 0, 2)
	wantRead(t, "a", a, 0, 1)
	b = flush(t, b)
	wantDisk(t, "a", a, impl.Disk{Blocks: emptyBlocks(2), Cache: []impl.Put{{At: 0, Words: list(1)}}})
	a = crash(t, a)
	wantDisk(t, "a", a, impl.Disk{Blocks: emptyBlocks(2)})
	wantDisk(t, "b", b, impl.Disk{Blocks: [][]int64{{2}, nil}})
	wantDisk(t, "a new one", newDisk(t, 2), impl.Disk{Blocks: emptyBlocks(2)})
}
