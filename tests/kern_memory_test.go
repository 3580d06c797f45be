package tests

import (
	"math"
	"testing"

	"loop.example/g00295/impl"
)

// sharedKern has lists that lie in one memory, with room behind their ends.
func sharedKern() impl.Kern {
	room := extents(impl.Extent{From: 0, Count: 1, Key: 7}, impl.Extent{From: 1, Count: 1, Key: 8}, impl.Extent{From: 3, Count: 1, Key: 7}, impl.Extent{From: 9, Count: 9, Key: 9}, impl.Extent{From: 9, Count: 9, Key: 9})
	return impl.Kern{Disk: sharedDisk(), Extents: room[:3]}
}

// memoryKerns leaves most of the great disks out: what is copied of a disk is
// asked with them where the disk is tested, and asking it here takes long.
func memoryKerns() []kernCase {
	var kerns []kernCase
	for _, c := range allKerns() {
		if len(c.kern.Disk.Cache) < 100 || c.what == "all at its most, all of it granted" {
			kerns = append(kerns, c)
		}
	}
	return append(kerns,
		kernCase{"lists that share memory", sharedKern(), impl.OK},
		kernCase{"nothing", impl.Kern{}, impl.OK},
		kernCase{"empty lists of room", impl.Kern{Disk: impl.Disk{Blocks: make([][]int64, 0, 5)}, Extents: make([]impl.Extent, 0, 5)}, impl.OK},
	)
}

func TestKernPromiseOne(t *testing.T) {
	spare := fill(9, 7)
	for _, c := range memoryKerns() {
		if code := checkCall(t, c.what+": KernFault", impl.KernFault, c.kern); code != c.code {
			t.Errorf("%s: KernFault %v, not %d", c.what, code, c.code)
		}
		for _, n := range []int64{math.MinInt64, -1, 0, 1, 2, 3, 60, math.MaxInt64} {
			checkCall(t, c.what+": OwnerOf", impl.OwnerOf, c.kern, n)
			for _, key := range []int64{0, 5, 7, 8, math.MaxInt64} {
				checkCall(t, c.what+": GrantExtent", impl.GrantExtent, c.kern, n, int64(1), key)
				checkCall(t, c.what+": RevokeExtent", impl.RevokeExtent, c.kern, n, key)
				checkCall(t, c.what+": ReadKern", impl.ReadKern, c.kern, key, n)
			}
			for _, words := range [][]int64{nil, {}, spare[:0], spare[:2], fill(65, 0), list(-1)} {
				checkCall(t, c.what+": WriteKern", impl.WriteKern, c.kern, int64(7), n, words)
			}
			checkCall(t, c.what+": GrantExtent", impl.GrantExtent, c.kern, int64(0), n, int64(7))
			checkCall(t, c.what+": FlushKern", impl.FlushKern, c.kern, n)
		}
		for _, key := range []int64{5, 7, 8} {
			checkCall(t, c.what+": FlushKern", impl.FlushKern, c.kern, key)
		}
	}
	for _, size := range []int64{math.MinInt64, -1, 0, 1, 60, 61, math.MaxInt64} {
		checkCall(t, "NewKern", impl.NewKern, size)
	}
}

// What comes of a kern does not hang on the room that its lists have, nor on
// what is behind their ends.
func TestRoomOfExtentsIsNotSeen(t *testing.T) {
	roomy := sharedKern()
	tight := impl.Kern{Disk: flush(t, roomy.Disk), Extents: append([]impl.Extent(nil), roomy.Extents...)}
	roomy.Disk = tight.Disk
	wantKern(t, "GrantExtent", impl.GrantExtent(roomy, 2, 1, 6), impl.GrantExtent(tight, 2, 1, 6).Kern)
	wantKern(t, "RevokeExtent", impl.RevokeExtent(roomy, 1, 8), impl.RevokeExtent(tight, 1, 8).Kern)
	wantNoKern(t, "a key behind the end", impl.FlushKern(roomy, 9), impl.ErrKey)
	wantOwners(t, "roomy", roomy, 7, 8, 0, 7)
}

// Two kerns that come of one do not meet.
func TestKernsByTurns(t *testing.T) {
	k := sharedKern()
	a, b := grant(t, k, 2, 1, 5), revoke(t, k, 1, 8)
	a = writeKern(t, a, 5, 2, 1)
	b = writeKern(t, b, 7, 0, 2)
	wantOwners(t, "a", a, 7, 8, 5, 7)
	wantOwners(t, "b", b, 7, 0, 0, 7)
	wantKern(t, "the argument", impl.KernResult{Kern: k}, sharedKern())
}
