package tests

import (
	"math"
	"testing"

	"loop.example/g00295/impl"
)

// fill gives n words, all of them the same.
func fill(n int, word int64) []int64 {
	words := make([]int64, n)
	for i := range words {
		words[i] = word
	}
	return words
}

func emptyBlocks(n int) [][]int64 {
	return make([][]int64, n)
}

func emptyPuts(n int) []impl.Put {
	return make([]impl.Put, n)
}

type diskCase struct {
	what string
	disk impl.Disk
	code int64
}

// soundDisks have no fault, though they stand at the bounds.
func soundDisks() []diskCase {
	return []diskCase{
		{"nothing", impl.Disk{}, impl.OK},
		{"empty lists", impl.Disk{Blocks: [][]int64{}, Cache: []impl.Put{}}, impl.OK},
		{"MaxDisk blocks", impl.Disk{Blocks: emptyBlocks(60)}, impl.OK},
		{"200 in Cache", impl.Disk{Blocks: emptyBlocks(1), Cache: emptyPuts(200)}, impl.OK},
		{"MaxWords words", impl.Disk{Blocks: [][]int64{nil, fill(64, 1)}}, impl.OK},
		{"words 0 and 65535", impl.Disk{Blocks: [][]int64{{0, 65535}}}, impl.OK},
		{"MaxWords words in Cache", impl.Disk{Blocks: emptyBlocks(1), Cache: []impl.Put{{Words: fill(64, 65535)}}}, impl.OK},
		{"words 0 and 65535 in Cache", impl.Disk{Blocks: emptyBlocks(1), Cache: []impl.Put{{Words: list(65535, 0)}}}, impl.OK},
		{"the last place in Cache", impl.Disk{Blocks: emptyBlocks(3), Cache: []impl.Put{{At: 2}, {At: 0}}}, impl.OK},
		{"all at its most", impl.Disk{Blocks: fullBlocks(60), Cache: fullPuts(200)}, impl.OK},
	}
}

func fullBlocks(n int) [][]int64 {
	blocks := emptyBlocks(n)
	for i := range blocks {
		blocks[i] = fill(64, 65535)
	}
	return blocks
}

func fullPuts(n int) []impl.Put {
	puts := emptyPuts(n)
	for i := range puts {
		puts[i] = impl.Put{At: int64(i % 60), Words: fill(64, 65535)}
	}
	return puts
}

func faultyDisks() []diskCase {
	return []diskCase{
		{"one block more", impl.Disk{Blocks: emptyBlocks(61)}, impl.ErrMany},
		{"one in Cache more", impl.Disk{Blocks: emptyBlocks(1), Cache: emptyPuts(201)}, impl.ErrMany},
		{"one word more", impl.Disk{Blocks: [][]int64{nil, fill(65, 1)}}, impl.ErrMany},
		{"a word below 0", impl.Disk{Blocks: [][]int64{nil, {3, -1}}}, impl.ErrRange},
		{"a word above 65535", impl.Disk{Blocks: [][]int64{nil, {3, 65536}}}, impl.ErrRange},
		{"the least word", impl.Disk{Blocks: [][]int64{{math.MinInt64}}}, impl.ErrRange},
		{"the greatest word", impl.Disk{Blocks: [][]int64{{math.MaxInt64}}}, impl.ErrRange},
		{"a word of 2 to the 32", impl.Disk{Blocks: [][]int64{{1 << 32}}}, impl.ErrRange},
		{"the last word of the last block", impl.Disk{Blocks: append(fullBlocks(59), append(fill(63, 0), 65536))}, impl.ErrRange},
		{"a put below 0", impl.Disk{Blocks: emptyBlocks(2), Cache: []impl.Put{{At: 1}, {At: -1}}}, impl.ErrRange},
		{"a put behind the last one", impl.Disk{Blocks: emptyBlocks(2), Cache: []impl.Put{{At: 1}, {At: 2}}}, impl.ErrRange},
		{"a put without blocks", impl.Disk{Cache: emptyPuts(1)}, impl.ErrRange},
		{"a put at the least", impl.Disk{Blocks: emptyBlocks(2), Cache: []impl.Put{{At: math.MinInt64}}}, impl.ErrRange},
		{"a put at the greatest", impl.Disk{Blocks: emptyBlocks(2), Cache: []impl.Put{{At: math.MaxInt64}}}, impl.ErrRange},
		{"a put at 2 to the 32", impl.Disk{Blocks: emptyBlocks(2), Cache: []impl.Put{{At: 1 << 32}}}, impl.ErrRange},
		{"one word more in Cache", impl.Disk{Blocks: emptyBlocks(1), Cache: []impl.Put{{}, {Words: fill(65, 1)}}}, impl.ErrMany},
		{"a word below 0 in Cache", impl.Disk{Blocks: emptyBlocks(1), Cache: []impl.Put{{}, {Words: list(1, -1)}}}, impl.ErrRange},
		{"a word above 65535 in Cache", impl.Disk{Blocks: emptyBlocks(1), Cache: []impl.Put{{}, {Words: list(1, 65536)}}}, impl.ErrRange},
		{"the last put of 200", impl.Disk{Blocks: emptyBlocks(60), Cache: append(fullPuts(199), impl.Put{At: 60})}, impl.ErrRange},
	}
}

// disksOfSeveral have more than one fault: which one comes first?
func disksOfSeveral() []diskCase {
	bad, long, both := list(-1), fill(65, 0), fill(65, 65536)
	return []diskCase{
		{"blocks ahead of words", impl.Disk{Blocks: append([][]int64{bad}, emptyBlocks(60)...)}, impl.ErrMany},
		{"Cache ahead of words", impl.Disk{Blocks: [][]int64{bad}, Cache: emptyPuts(201)}, impl.ErrMany},
		{"Cache ahead of places", impl.Disk{Cache: emptyPuts(201)}, impl.ErrMany},
		{"blocks ahead of places", impl.Disk{Blocks: emptyBlocks(61), Cache: []impl.Put{{At: -1}}}, impl.ErrMany},
		{"how many ahead of which, in one block", impl.Disk{Blocks: [][]int64{both}}, impl.ErrMany},
		{"block by block: which, then how many", impl.Disk{Blocks: [][]int64{bad, long}}, impl.ErrRange},
		{"block by block: how many, then which", impl.Disk{Blocks: [][]int64{long, bad}}, impl.ErrMany},
		{"blocks ahead of puts: which", impl.Disk{Blocks: [][]int64{nil, bad}, Cache: []impl.Put{{Words: long}}}, impl.ErrRange},
		{"blocks ahead of puts: how many", impl.Disk{Blocks: [][]int64{nil, long}, Cache: []impl.Put{{At: -1}}}, impl.ErrMany},
		{"place ahead of how many, in one put", impl.Disk{Blocks: emptyBlocks(1), Cache: []impl.Put{{At: 1, Words: long}}}, impl.ErrRange},
		{"how many ahead of which, in one put", impl.Disk{Blocks: emptyBlocks(1), Cache: []impl.Put{{Words: both}}}, impl.ErrMany},
		{"put by put: place, then how many", impl.Disk{Blocks: emptyBlocks(1), Cache: []impl.Put{{At: 1}, {Words: long}}}, impl.ErrRange},
		{"put by put: how many, then place", impl.Disk{Blocks: emptyBlocks(1), Cache: []impl.Put{{Words: long}, {At: 1}}}, impl.ErrMany},
		{"put by put: which, then how many", impl.Disk{Blocks: emptyBlocks(1), Cache: []impl.Put{{Words: bad}, {Words: long}}}, impl.ErrRange},
		{"put by put: how many, then which", impl.Disk{Blocks: emptyBlocks(1), Cache: []impl.Put{{Words: long}, {Words: bad}}}, impl.ErrMany},
	}
}

func allDisks() []diskCase {
	return append(append(soundDisks(), faultyDisks()...), disksOfSeveral()...)
}

func wantCode(t *testing.T, what string, code, want int64) {
	t.Helper()
	if code != want {
		t.Errorf("%s: code %d, not %d", what, code, want)
	}
}

func TestDiskFault(t *testing.T) {
	for _, c := range allDisks() {
		wantCode(t, c.what, impl.DiskFault(c.disk), c.code)
	}
}

func TestDiskFaultComesFirst(t *testing.T) {
	for _, c := range append(faultyDisks(), disksOfSeveral()...) {
		zero := impl.DiskResult{Code: c.code}
		for _, at := range []int64{0, -1, 60} {
			for _, words := range [][]int64{nil, fill(65, 0), list(-1)} {
				if r := impl.PutBlock(c.disk, at, words); !same(r, zero) {
					t.Errorf("%s: PutBlock %v, not code %d alone", c.what, r, c.code)
				}
			}
			if r := impl.BlockAt(c.disk, at); !same(r, impl.IntsResult{Code: c.code}) {
				t.Errorf("%s: BlockAt %v, not code %d alone", c.what, r, c.code)
			}
		}
		if r := impl.FlushDisk(c.disk); !same(r, zero) {
			t.Errorf("%s: FlushDisk %v, not code %d alone", c.what, r, c.code)
		}
		for _, picks := range [][]bool{nil, {true}, make([]bool, 300)} {
			if r := impl.CrashDisk(c.disk, picks); !same(r, zero) {
				t.Errorf("%s: CrashDisk %v, not code %d alone", c.what, r, c.code)
			}
		}
	}
}

func TestSoundDisksAreTaken(t *testing.T) {
	for _, c := range soundDisks() {
		wantCode(t, c.what+": FlushDisk", impl.FlushDisk(c.disk).Code, impl.OK)
		wantCode(t, c.what+": CrashDisk", impl.CrashDisk(c.disk, []bool{true, false, true}).Code, impl.OK)
		for at := range int64(len(c.disk.Blocks)) {
			wantCode(t, c.what+": BlockAt", impl.BlockAt(c.disk, at).Code, impl.OK)
		}
	}
}

func TestNewDiskCodes(t *testing.T) {
	for _, size := range []int64{0, 1, 59, 60} {
		wantCode(t, "NewDisk", impl.NewDisk(size).Code, impl.OK)
	}
	for _, size := range []int64{-1, 61, math.MinInt64, math.MaxInt64, 1 << 32, -1 << 32, 1<<32 + 4} {
		if r := impl.NewDisk(size); !same(r, impl.DiskResult{Code: impl.ErrRange}) {
			t.Errorf("NewDisk(%d): %v", size, r)
		}
	}
}

func TestPlaces(t *testing.T) {
	for size := range int64(4) {
		d := newDisk(t, size)
		for _, at := range []int64{-1, 0, 1, 2, 3, 4, math.MinInt64, math.MaxInt64, 1 << 32, -1 << 32} {
			want := int64(impl.OK)
			if at < 0 || at >= size {
				want = impl.ErrRange
			}
			wantCode(t, "PutBlock", impl.PutBlock(d, at, list(1)).Code, want)
			wantCode(t, "BlockAt", impl.BlockAt(d, at).Code, want)
		}
	}
}

func TestPutBlockCodes(t *testing.T) {
	roomy := impl.Disk{Blocks: emptyBlocks(2), Cache: emptyPuts(199)}
	full := impl.Disk{Blocks: emptyBlocks(2), Cache: emptyPuts(200)}
	for _, c := range []struct {
		what  string
		disk  impl.Disk
		at    int64
		words []int64
		code  int64
	}{
		{"no words", roomy, 1, nil, impl.OK},
		{"MaxWords words", roomy, 1, fill(64, 0), impl.OK},
		{"one word more", roomy, 1, fill(65, 0), impl.ErrMany},
		{"words 0 and 65535", roomy, 1, list(0, 65535), impl.OK},
		{"a word below 0", roomy, 1, list(0, -1), impl.ErrRange},
		{"a word above 65535", roomy, 1, list(0, 65536), impl.ErrRange},
		{"the greatest word", roomy, 1, list(math.MaxInt64), impl.ErrRange},
		{"the least word", roomy, 1, list(math.MinInt64), impl.ErrRange},
		{"the last of 64 words", roomy, 1, append(fill(63, 0), 65536), impl.ErrRange},
		{"the last in Cache", roomy, 0, list(1), impl.OK},
		{"one in Cache more", full, 0, list(1), impl.ErrMany},
		{"no words, one in Cache more", full, 0, nil, impl.ErrMany},
		{"place ahead of how many words", roomy, 2, fill(65, 0), impl.ErrRange},
		{"place ahead of how many in Cache", full, -1, list(1), impl.ErrRange},
		{"how many words ahead of which", roomy, 1, fill(65, -1), impl.ErrMany},
		{"which words ahead of how many in Cache", full, 1, list(65536), impl.ErrRange},
	} {
		r := impl.PutBlock(c.disk, c.at, c.words)
		wantCode(t, c.what, r.Code, c.code)
		want := impl.DiskResult{Code: c.code}
		if c.code == impl.OK {
			want.Disk.Blocks = c.disk.Blocks
			want.Disk.Cache = append(append(want.Disk.Cache, c.disk.Cache...), impl.Put{At: c.at, Words: c.words})
		}
		if !same(r, want) {
			t.Errorf("%s: %v, not %v", c.what, r, want)
		}
	}
}
