package tests

import (
	"testing"

	"loop.example/g00295/impl"
)

// The names, constants and signatures of chapter 1, as the document has them.
var (
	_ func(impl.Disk) int64                           = impl.DiskFault
	_ func(int64) impl.DiskResult                     = impl.NewDisk
	_ func(impl.Disk, int64, []int64) impl.DiskResult = impl.PutBlock
	_ func(impl.Disk, int64) impl.IntsResult          = impl.BlockAt
	_ func(impl.Disk) impl.DiskResult                 = impl.FlushDisk
	_ func(impl.Disk, []bool) impl.DiskResult         = impl.CrashDisk
	_                                                 = impl.Put{At: int64(0), Words: []int64(nil)}
	_                                                 = impl.Disk{Blocks: [][]int64(nil), Cache: []impl.Put(nil)}
	_                                                 = impl.DiskResult{Code: int64(0), Disk: impl.Disk{}}
	_                                                 = impl.IntResult{Code: int64(0), Value: int64(0)}
	_                                                 = impl.IntsResult{Code: int64(0), List: []int64(nil)}
	_                                                 = impl.BytesResult{Code: int64(0), Bytes: []byte(nil)}
	_                                                 = impl.TextResult{Code: int64(0), Text: ""}
)

func TestDiskConstants(t *testing.T) {
	got := []int64{impl.OK, impl.ErrForm, impl.ErrMany, impl.ErrRange, impl.ErrNone, impl.ErrText, impl.ErrKey, impl.ErrTaken, impl.ErrFull, impl.ErrDir, impl.ErrState, impl.MaxWords, impl.MaxDisk}
	want := []int64{0, 1, 2, 3, 4, 5, 6, 7, 8, 9, 10, 64, 60}
	if !same(got, want) {
		t.Errorf("constants %v, not %v", got, want)
	}
}

func list(words ...int64) []int64 {
	return words
}

func newDisk(t *testing.T, size int64) impl.Disk {
	t.Helper()
	r := impl.NewDisk(size)
	if r.Code != impl.OK {
		t.Fatalf("NewDisk(%d): code %d", size, r.Code)
	}
	return r.Disk
}

func put(t *testing.T, d impl.Disk, at int64, words ...int64) impl.Disk {
	t.Helper()
	r := impl.PutBlock(d, at, words)
	if r.Code != impl.OK {
		t.Fatalf("PutBlock(%d, %v): code %d", at, words, r.Code)
	}
	return r.Disk
}

func flush(t *testing.T, d impl.Disk) impl.Disk {
	t.Helper()
	r := impl.FlushDisk(d)
	if r.Code != impl.OK {
		t.Fatalf("FlushDisk: code %d", r.Code)
	}
	return r.Disk
}

func crash(t *testing.T, d impl.Disk, picks ...bool) impl.Disk {
	t.Helper()
	r := impl.CrashDisk(d, picks)
	if r.Code != impl.OK {
		t.Fatalf("CrashDisk: code %d", r.Code)
	}
	return r.Disk
}

func wantDisk(t *testing.T, what string, d impl.Disk, want impl.Disk) {
	t.Helper()
	if !same(d, want) {
		t.Errorf("%s: %v, not %v", what, d, want)
	}
}

func wantRead(t *testing.T, what string, d impl.Disk, at int64, words ...int64) {
	t.Helper()
	if r := impl.BlockAt(d, at); !same(r, impl.IntsResult{List: words}) {
		t.Errorf("%s: block %d reads %v, not %v", what, at, r, words)
	}
}

func TestNewDiskIsEmpty(t *testing.T) {
	for _, size := range []int64{0, 1, 4, impl.MaxDisk} {
		d := newDisk(t, size)
		wantDisk(t, "new", d, impl.Disk{Blocks: make([][]int64, size)})
		for at := range size {
			wantRead(t, "new", d, at)
		}
	}
}

func TestPutStandsBehindCache(t *testing.T) {
	d := put(t, put(t, newDisk(t, 3), 2, 8), 0, 9, 10)
	wantDisk(t, "two puts", d, impl.Disk{
		Blocks: [][]int64{nil, nil, nil},
		Cache:  []impl.Put{{At: 2, Words: list(8)}, {At: 0, Words: list(9, 10)}},
	})
	d = put(t, d, 2, 11)
	wantDisk(t, "a third one of the same block", d, impl.Disk{
		Blocks: [][]int64{nil, nil, nil},
		Cache:  []impl.Put{{At: 2, Words: list(8)}, {At: 0, Words: list(9, 10)}, {At: 2, Words: list(11)}},
	})
}

func TestPutIsRead(t *testing.T) {
	d := put(t, put(t, newDisk(t, 3), 1, 5, 0, 65535), 2, 7)
	for _, now := range []struct {
		what string
		disk impl.Disk
	}{{"in the cache", d}, {"behind a flush", flush(t, d)}, {"behind two flushes", flush(t, flush(t, d))}} {
		wantRead(t, now.what, now.disk, 0)
		wantRead(t, now.what, now.disk, 1, 5, 0, 65535)
		wantRead(t, now.what, now.disk, 2, 7)
	}
}

func TestLastPutIsRead(t *testing.T) {
	d := put(t, newDisk(t, 2), 0, 1)
	d = put(t, put(t, put(t, flush(t, d), 0, 2, 2), 1, 3), 0, 4)
	wantRead(t, "in the cache twice", d, 0, 4)
	wantRead(t, "in the cache once", d, 1, 3)
	wantDisk(t, "flushed", flush(t, d), impl.Disk{Blocks: [][]int64{{4}, {3}}})
}

func TestEmptyPutIsRead(t *testing.T) {
	d := put(t, flush(t, put(t, newDisk(t, 2), 1, 6, 6)), 1)
	wantRead(t, "no words put last", d, 1)
	wantDisk(t, "flushed", flush(t, d), impl.Disk{Blocks: [][]int64{nil, nil}})
	wantDisk(t, "lost", crash(t, d), impl.Disk{Blocks: [][]int64{nil, {6, 6}}})
	wantRead(t, "words behind none", put(t, d, 1, 9), 1, 9)
}

func TestFlushPutsAllInOrder(t *testing.T) {
	d := impl.Disk{
		Blocks: [][]int64{{1}, {2, 2}, {3}},
		Cache:  []impl.Put{{At: 0, Words: list(4, 5, 6)}, {At: 2, Words: list(7)}, {At: 0, Words: list(8)}, {At: 2}},
	}
	wantDisk(t, "flush", flush(t, d), impl.Disk{Blocks: [][]int64{{8}, {2, 2}, nil}})
	bare := impl.Disk{Blocks: d.Blocks}
	wantDisk(t, "flush of nothing", flush(t, bare), bare)
	wantDisk(t, "flush of no blocks", flush(t, impl.Disk{}), impl.Disk{})
}

func TestCrashPutsJustThePicked(t *testing.T) {
	d := impl.Disk{
		Blocks: [][]int64{{1}, {2}, {3}},
		Cache:  []impl.Put{{At: 0, Words: list(4)}, {At: 1, Words: list(5)}, {At: 0, Words: list(6)}},
	}
	for _, c := range []struct {
		what  string
		picks []bool
		want  [][]int64
	}{
		{"no picks", nil, [][]int64{{1}, {2}, {3}}},
		{"empty picks", []bool{}, [][]int64{{1}, {2}, {3}}},
		{"none picked", []bool{false, false, false}, [][]int64{{1}, {2}, {3}}},
		{"all picked", []bool{true, true, true}, [][]int64{{6}, {5}, {3}}},
		{"the first of two", []bool{true, false, false}, [][]int64{{4}, {2}, {3}}},
		{"the last of two", []bool{false, false, true}, [][]int64{{6}, {2}, {3}}},
		{"both of two", []bool{true, false, true}, [][]int64{{6}, {2}, {3}}},
		{"the one between", []bool{false, true, false}, [][]int64{{1}, {5}, {3}}},
		{"too few picks", []bool{true}, [][]int64{{4}, {2}, {3}}},
		{"too few picks, false", []bool{false}, [][]int64{{1}, {2}, {3}}},
		{"too few by one", []bool{true, true}, [][]int64{{4}, {5}, {3}}},
		{"too many picks", []bool{false, true, false, true, true}, [][]int64{{1}, {5}, {3}}},
	} {
		wantDisk(t, c.what, crash(t, d, c.picks...), impl.Disk{Blocks: c.want})
	}
	wantDisk(t, "no blocks", crash(t, impl.Disk{}, true), impl.Disk{})
}

func TestPicksDoNotReachBehindTheirEnd(t *testing.T) {
	picks := []bool{false, true, true}
	d := put(t, put(t, newDisk(t, 2), 0, 1), 1, 2)
	wantDisk(t, "a true behind the end", crash(t, d, picks[:1]...), impl.Disk{Blocks: [][]int64{nil, nil}})
}

func TestWhatWasFlushedStays(t *testing.T) {
	d := flush(t, put(t, put(t, newDisk(t, 3), 0, 1), 1, 2))
	d = put(t, put(t, d, 0, 3), 2, 4)
	d = crash(t, d)
	wantDisk(t, "behind a crash", d, impl.Disk{Blocks: [][]int64{{1}, {2}, nil}})
	wantDisk(t, "behind another one", crash(t, d, true, true), d)
}

func TestFullDisk(t *testing.T) {
	d := newDisk(t, impl.MaxDisk)
	picks := make([]bool, 200)
	want := impl.Disk{Blocks: make([][]int64, impl.MaxDisk)}
	odd := impl.Disk{Blocks: make([][]int64, impl.MaxDisk)}
	for i := range int64(200) {
		words := make([]int64, impl.MaxWords)
		words[impl.MaxWords-1] = i
		d = put(t, d, i%impl.MaxDisk, words...)
		want.Blocks[i%impl.MaxDisk] = words
		if i%2 == 1 {
			picks[i] = true
			odd.Blocks[i%impl.MaxDisk] = words
		}
	}
	for at := range int64(impl.MaxDisk) {
		wantRead(t, "full", d, at, want.Blocks[at]...)
	}
	wantDisk(t, "flushed", flush(t, d), want)
	wantDisk(t, "crashed", crash(t, d, picks...), odd)
	wantDisk(t, "room again", put(t, flush(t, d), 59, 7), impl.Disk{Blocks: want.Blocks, Cache: []impl.Put{{At: 59, Words: list(7)}}})
}

// dice is a row of numbers that is the same in every run.
type dice uint64

func (x *dice) below(n int64) int64 {
	*x = *x*6364136223846793005 + 1442695040888963407
	return int64(uint64(*x)>>33) % n
}

func (x *dice) words() []int64 {
	words := make([]int64, x.below(4))
	for i := range words {
		words[i] = x.below(65536)
	}
	return words
}

// Held against a disk kept by hand: blocks as they are for sure, and the
// puts that a crash may take.
func TestDiskAgainstModel(t *testing.T) {
	for seed := range dice(60) {
		x := seed
		size := 1 + x.below(5)
		d := newDisk(t, size)
		model := impl.Disk{Blocks: make([][]int64, size)}
		for range 80 {
			switch x.below(10) {
			case 0:
				d = flush(t, d)
				for _, p := range model.Cache {
					model.Blocks[p.At] = p.Words
				}
				model.Cache = nil
			case 1:
				picks := make([]bool, x.below(int64(len(model.Cache))+2))
				for i := range picks {
					picks[i] = x.below(2) == 1
				}
				d = crash(t, d, picks...)
				for i, p := range model.Cache {
					if i < len(picks) && picks[i] {
						model.Blocks[p.At] = p.Words
					}
				}
				model.Cache = nil
			default:
				at, words := x.below(size), x.words()
				d = put(t, d, at, words...)
				model.Cache = append(model.Cache, impl.Put{At: at, Words: words})
			}
			wantDisk(t, "model", d, model)
			for at := range size {
				last := model.Blocks[at]
				for _, p := range model.Cache {
					if p.At == at {
						last = p.Words
					}
				}
				wantRead(t, "model", d, at, last...)
			}
		}
	}
}
