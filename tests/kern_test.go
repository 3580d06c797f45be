package tests

import (
	"testing"

	"loop.example/g00295/impl"
)

// The names, constants and signatures of chapter 2, as the document has them.
var (
	_ func(impl.Kern) int64                                  = impl.KernFault
	_ func(int64) impl.KernResult                            = impl.NewKern
	_ func(impl.Kern, int64, int64, int64) impl.KernResult   = impl.GrantExtent
	_ func(impl.Kern, int64, int64) impl.KernResult          = impl.RevokeExtent
	_ func(impl.Kern, int64) impl.IntResult                  = impl.OwnerOf
	_ func(impl.Kern, int64, int64, []int64) impl.KernResult = impl.WriteKern
	_ func(impl.Kern, int64, int64) impl.KernResult          = impl.ReadKern
	_ func(impl.Kern, int64) impl.KernResult                 = impl.FlushKern
	_                                                        = impl.Extent{From: int64(0), Count: int64(0), Key: int64(0)}
	_                                                        = impl.Kern{Disk: impl.Disk{}, Extents: []impl.Extent(nil)}
	_                                                        = impl.KernResult{Code: int64(0), Words: []int64(nil), Kern: impl.Kern{}}
	_                                                        = [1]int{}[impl.MaxExtents-8]
)

func extents(list ...impl.Extent) []impl.Extent {
	return list
}

// kernOf gives a kern of so many empty blocks with these extents.
func kernOf(size int, list ...impl.Extent) impl.Kern {
	return impl.Kern{Disk: impl.Disk{Blocks: emptyBlocks(size)}, Extents: list}
}

func kernIn(t *testing.T, what string, r impl.KernResult) impl.Kern {
	t.Helper()
	if r.Code != impl.OK {
		t.Fatalf("%s: code %d", what, r.Code)
	}
	return r.Kern
}

func grant(t *testing.T, k impl.Kern, from, count, key int64) impl.Kern {
	t.Helper()
	return kernIn(t, "GrantExtent", impl.GrantExtent(k, from, count, key))
}

func revoke(t *testing.T, k impl.Kern, from, key int64) impl.Kern {
	t.Helper()
	return kernIn(t, "RevokeExtent", impl.RevokeExtent(k, from, key))
}

func writeKern(t *testing.T, k impl.Kern, key, at int64, words ...int64) impl.Kern {
	t.Helper()
	return kernIn(t, "WriteKern", impl.WriteKern(k, key, at, words))
}

func flushKern(t *testing.T, k impl.Kern, key int64) impl.Kern {
	t.Helper()
	return kernIn(t, "FlushKern", impl.FlushKern(k, key))
}

func wantKern(t *testing.T, what string, r impl.KernResult, want impl.Kern) {
	t.Helper()
	if !same(r, impl.KernResult{Kern: want}) {
		t.Errorf("%s: %v, not %v", what, r, want)
	}
}

func wantNoKern(t *testing.T, what string, r impl.KernResult, code int64) {
	t.Helper()
	if !same(r, impl.KernResult{Code: code}) {
		t.Errorf("%s: %v, not code %d alone", what, r, code)
	}
}

// ownersOf tells of each block whose it is, 0 for nobody.
func ownersOf(t *testing.T, k impl.Kern) []int64 {
	t.Helper()
	owners := make([]int64, len(k.Disk.Blocks))
	for at := range owners {
		r := impl.OwnerOf(k, int64(at))
		if r.Code == impl.ErrNone && r.Value == 0 {
			continue
		}
		if r.Code != impl.OK || r.Value == 0 {
			t.Fatalf("OwnerOf(%d): %v", at, r)
		}
		owners[at] = r.Value
	}
	return owners
}

func wantOwners(t *testing.T, what string, k impl.Kern, want ...int64) {
	t.Helper()
	if owners := ownersOf(t, k); !same(owners, want) {
		t.Errorf("%s: blocks are of %v, not of %v", what, owners, want)
	}
}

func TestNewKern(t *testing.T) {
	for _, size := range []int64{0, 1, 8, 60} {
		wantKern(t, "NewKern", impl.NewKern(size), kernOf(int(size)))
		wantOwners(t, "NewKern", impl.NewKern(size).Kern, make([]int64, size)...)
	}
}

func TestGrantedIsOfItsKey(t *testing.T) {
	k := grant(t, kernOf(8), 2, 3, 7)
	wantOwners(t, "one", k, 0, 0, 7, 7, 7, 0, 0, 0)
	k = grant(t, k, 7, 1, 9999)
	wantOwners(t, "the last block", k, 0, 0, 7, 7, 7, 0, 0, 9999)
	k = grant(t, k, 0, 1, 1)
	wantOwners(t, "the first block", k, 1, 0, 7, 7, 7, 0, 0, 9999)
	k = grant(t, k, 5, 2, 7)
	wantOwners(t, "the same key, touching both", k, 1, 0, 7, 7, 7, 7, 7, 9999)
	k = grant(t, k, 1, 1, 8)
	wantOwners(t, "full", k, 1, 8, 7, 7, 7, 7, 7, 9999)
	wantOwners(t, "all at once", grant(t, kernOf(8), 0, 8, 3), 3, 3, 3, 3, 3, 3, 3, 3)
}

// Extents rise by From, wherever the new one stands.
func TestGrantedStandsInItsPlace(t *testing.T) {
	a, b, c := impl.Extent{From: 0, Count: 2, Key: 5}, impl.Extent{From: 2, Count: 3, Key: 4}, impl.Extent{From: 6, Count: 2, Key: 9}
	for _, order := range [][]impl.Extent{{a, b, c}, {a, c, b}, {b, a, c}, {b, c, a}, {c, a, b}, {c, b, a}} {
		k := kernOf(8)
		for _, e := range order {
			k = grant(t, k, e.From, e.Count, e.Key)
		}
		wantKern(t, "granted", impl.KernResult{Kern: k}, kernOf(8, a, b, c))
		wantOwners(t, "granted", k, 5, 5, 4, 4, 4, 0, 9, 9)
		wantCode(t, "granted", impl.KernFault(k), impl.OK)
	}
}

func TestRevokedIsOfNobody(t *testing.T) {
	a, b, c := impl.Extent{From: 0, Count: 2, Key: 5}, impl.Extent{From: 2, Count: 3, Key: 5}, impl.Extent{From: 5, Count: 1, Key: 9}
	k := kernOf(6, a, b, c)
	wantKern(t, "the first", impl.RevokeExtent(k, 0, 5), kernOf(6, b, c))
	wantKern(t, "the one between", impl.RevokeExtent(k, 2, 5), kernOf(6, a, c))
	wantKern(t, "the last", impl.RevokeExtent(k, 5, 9), kernOf(6, a, b))
	wantOwners(t, "the one between", revoke(t, k, 2, 5), 5, 5, 0, 0, 0, 9)
	wantKern(t, "all", impl.RevokeExtent(revoke(t, revoke(t, k, 5, 9), 0, 5), 2, 5), kernOf(6))
	wantOwners(t, "granted anew", grant(t, revoke(t, k, 2, 5), 3, 2, 8), 5, 5, 0, 8, 8, 9)
}

// What was revoked stays on the disk, and is of whom it is granted to next.
func TestRevokedKeepsItsWords(t *testing.T) {
	k := writeKern(t, grant(t, kernOf(3), 0, 2, 5), 5, 1, 6, 6)
	k = revoke(t, k, 0, 5)
	wantNoKern(t, "the old key", impl.ReadKern(k, 5, 1), impl.ErrNone)
	wantNoKern(t, "the old key", impl.WriteKern(k, 5, 1, list(7)), impl.ErrNone)
	wantNoKern(t, "the old key", impl.FlushKern(k, 5), impl.ErrKey)
	k = grant(t, k, 1, 2, 8)
	if r := impl.ReadKern(k, 8, 1); r.Code != impl.OK || !same(r.Words, list(6, 6)) {
		t.Errorf("granted anew: %v", r)
	}
	wantNoKern(t, "the old key, granted anew", impl.ReadKern(k, 5, 1), impl.ErrKey)
}

func TestWriteAndRead(t *testing.T) {
	k := kernOf(4, impl.Extent{From: 1, Count: 2, Key: 7}, impl.Extent{From: 3, Count: 1, Key: 8})
	w := impl.WriteKern(k, 7, 2, list(5, 0, 65535))
	want := k
	want.Disk.Cache = []impl.Put{{At: 2, Words: list(5, 0, 65535)}}
	wantKern(t, "WriteKern", w, want)
	w = impl.WriteKern(w.Kern, 8, 3, nil)
	want.Disk.Cache = append(want.Disk.Cache, impl.Put{At: 3})
	wantKern(t, "WriteKern of no words", w, want)
	w = impl.WriteKern(w.Kern, 7, 2, list(6))
	want.Disk.Cache = append(want.Disk.Cache, impl.Put{At: 2, Words: list(6)})
	wantKern(t, "WriteKern again", w, want)
	for _, c := range []struct {
		key, at int64
		words   []int64
	}{{7, 1, nil}, {7, 2, list(6)}, {8, 3, nil}} {
		if r := impl.ReadKern(w.Kern, c.key, c.at); !same(r, impl.KernResult{Words: c.words, Kern: want}) {
			t.Errorf("ReadKern(%d, %d): %v, not %v of %v", c.key, c.at, r, c.words, want)
		}
	}
	wantKern(t, "FlushKern", impl.FlushKern(w.Kern, 8), impl.Kern{Disk: impl.Disk{Blocks: [][]int64{nil, nil, {6}, nil}}, Extents: k.Extents})
}

// A flush is of all that is in the cache, whoever put it there.
func TestFlushKernIsOfAll(t *testing.T) {
	k := kernOf(3, impl.Extent{From: 0, Count: 1, Key: 7}, impl.Extent{From: 2, Count: 1, Key: 8})
	k = writeKern(t, writeKern(t, k, 7, 0, 1), 8, 2, 2)
	want := impl.Kern{Disk: impl.Disk{Blocks: [][]int64{{1}, nil, {2}}}, Extents: k.Extents}
	wantKern(t, "by the one", impl.FlushKern(k, 7), want)
	wantKern(t, "by the other", impl.FlushKern(k, 8), want)
	wantKern(t, "of nothing", impl.FlushKern(want, 8), want)
}

// Who has no key to a block changes nothing of it, whatever they try.
func TestKeysOfOthers(t *testing.T) {
	k := kernOf(6, impl.Extent{From: 1, Count: 2, Key: 7}, impl.Extent{From: 3, Count: 1, Key: 9999}, impl.Extent{From: 5, Count: 1, Key: 1})
	k = writeKern(t, writeKern(t, k, 7, 2, 5), 9999, 3, 6)
	owners := list(0, 7, 7, 9999, 0, 1)
	wantOwners(t, "the kern", k, owners...)
	for _, key := range keysTried() {
		known := false
		for at, owner := range owners {
			known = known || owner == key && owner != 0
			want := int64(impl.ErrKey)
			if owner == 0 {
				want = impl.ErrNone
			} else if owner == key {
				want = impl.OK
			}
			w, r := impl.WriteKern(k, key, int64(at), list(8)), impl.ReadKern(k, key, int64(at))
			wantCode(t, "WriteKern", w.Code, want)
			wantCode(t, "ReadKern", r.Code, want)
			if want != impl.OK {
				wantNoKern(t, "WriteKern", w, want)
				wantNoKern(t, "ReadKern", r, want)
			}
		}
		for _, e := range k.Extents {
			if e.Key != key {
				wantNoKern(t, "RevokeExtent", impl.RevokeExtent(k, e.From, key), impl.ErrKey)
			}
			wantNoKern(t, "GrantExtent", impl.GrantExtent(k, e.From, 1, 2), impl.ErrTaken)
		}
		if !known {
			wantNoKern(t, "FlushKern", impl.FlushKern(k, key), impl.ErrKey)
		}
	}
}

// keysTried has those of the kern above, ones that no extent has, and numbers
// that would be a key in fewer bits or with another sign.
func keysTried() []int64 {
	return []int64{7, 9999, 1, 8, 2, 6, 9998, 0, -1, -7, 10000, 1<<16 + 7, 1<<16 + 1, 1<<32 + 7, 1<<48 + 7, -1<<16 + 7, -1<<32 + 1, -1 << 63, 1<<63 - 1, -1<<63 + 7}
}

// Extents that touch have no block in common; ones that share just their
// first or last block have.
func TestExtentsThatTouch(t *testing.T) {
	k := kernOf(10, impl.Extent{From: 3, Count: 3, Key: 5})
	for from := range int64(10) {
		for count := int64(1); from+count <= 10; count++ {
			r := impl.GrantExtent(k, from, count, 6)
			if from+count <= 3 || from >= 6 {
				if r.Code != impl.OK {
					t.Errorf("from %d, %d blocks: code %d", from, count, r.Code)
				}
				continue
			}
			wantNoKern(t, "a block in common", r, impl.ErrTaken)
		}
	}
	wantOwners(t, "just ahead", grant(t, k, 2, 1, 6), 0, 0, 6, 5, 5, 5, 0, 0, 0, 0)
	wantOwners(t, "just behind", grant(t, k, 6, 2, 6), 0, 0, 0, 5, 5, 5, 6, 6, 0, 0)
	wantNoKern(t, "the very same", impl.GrantExtent(k, 3, 3, 5), impl.ErrTaken)
}

func TestEightExtents(t *testing.T) {
	k := kernOf(60)
	for i := range int64(8) {
		k = grant(t, k, (i*5)%8, 1, i+1)
	}
	wantOwners(t, "eight", k, append(list(1, 6, 3, 8, 5, 2, 7, 4), make([]int64, 52)...)...)
	wantNoKern(t, "one more", impl.GrantExtent(k, 8, 1, 1), impl.ErrMany)
	wantNoKern(t, "one more that is taken", impl.GrantExtent(k, 7, 1, 1), impl.ErrTaken)
	k = revoke(t, k, 3, 8)
	wantNoKern(t, "another one", impl.GrantExtent(k, 2, 2, 1), impl.ErrTaken)
	wantOwners(t, "room again", grant(t, k, 3, 1, 9), append(list(1, 6, 3, 9, 5, 2, 7, 4), make([]int64, 52)...)...)
}
