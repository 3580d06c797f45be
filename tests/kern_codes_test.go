package tests

import (
	"math"
	"testing"

	"loop.example/g00295/impl"
)

type kernCase struct {
	what string
	kern impl.Kern
	code int64
}

// row gives so many extents of one block each, one behind the other.
func row(n int) []impl.Extent {
	list := make([]impl.Extent, n)
	for i := range list {
		list[i] = impl.Extent{From: int64(i), Count: 1, Key: int64(i + 1)}
	}
	return list
}

func soundKerns() []kernCase {
	kerns := []kernCase{
		{"no extents", kernOf(4), impl.OK},
		{"empty extents", kernOf(4, extents()...), impl.OK},
		{"MaxExtents extents", kernOf(60, row(8)...), impl.OK},
		{"MaxExtents extents, no block left", kernOf(8, row(8)...), impl.OK},
		{"Key 1", kernOf(4, impl.Extent{From: 1, Count: 2, Key: 1}), impl.OK},
		{"Key 9999", kernOf(4, impl.Extent{From: 1, Count: 2, Key: 9999}), impl.OK},
		{"From 0", kernOf(4, impl.Extent{From: 0, Count: 1, Key: 5}), impl.OK},
		{"all blocks", kernOf(4, impl.Extent{From: 0, Count: 4, Key: 5}), impl.OK},
		{"all blocks of the most", kernOf(60, impl.Extent{From: 0, Count: 60, Key: 5}), impl.OK},
		{"the one block", kernOf(1, impl.Extent{From: 0, Count: 1, Key: 5}), impl.OK},
		{"the last block", kernOf(4, impl.Extent{From: 3, Count: 1, Key: 5}), impl.OK},
		{"up to the last block", kernOf(4, impl.Extent{From: 1, Count: 3, Key: 5}), impl.OK},
		{"two that touch", kernOf(4, impl.Extent{From: 0, Count: 2, Key: 5}, impl.Extent{From: 2, Count: 2, Key: 6}), impl.OK},
		{"two that touch, of one key", kernOf(4, impl.Extent{From: 0, Count: 2, Key: 5}, impl.Extent{From: 2, Count: 2, Key: 5}), impl.OK},
		{"two apart", kernOf(4, impl.Extent{From: 0, Count: 1, Key: 5}, impl.Extent{From: 3, Count: 1, Key: 6}), impl.OK},
	}
	for _, c := range soundDisks() {
		kerns = append(kerns, kernCase{c.what, impl.Kern{Disk: c.disk}, impl.OK})
		if n := int64(len(c.disk.Blocks)); n > 0 {
			kerns = append(kerns, kernCase{c.what + ", all of it granted", impl.Kern{Disk: c.disk, Extents: extents(impl.Extent{From: 0, Count: n, Key: 7})}, impl.OK})
		}
	}
	return kerns
}

// wrongExtents leave their bounds on a disk of 4 blocks.
func wrongExtents() map[string]impl.Extent {
	list := map[string]impl.Extent{
		"the zero extent":             {},
		"Key 0":                       {From: 1, Count: 2, Key: 0},
		"Key below 0":                 {From: 1, Count: 2, Key: -1},
		"Key 10000":                   {From: 1, Count: 2, Key: 10000},
		"a Key that is so in 16 bits": {From: 1, Count: 2, Key: 1<<16 + 7},
		"From below 0":                {From: -1, Count: 2, Key: 5},
		"From the number of blocks":   {From: 4, Count: 1, Key: 5},
		"From above that":             {From: 5, Count: 1, Key: 5},
		"Count 0":                     {From: 1, Count: 0, Key: 5},
		"Count 0 at the end":          {From: 4, Count: 0, Key: 5},
		"Count below 0":               {From: 1, Count: -1, Key: 5},
		"Count above all blocks":      {From: 0, Count: 5, Key: 5},
		"beyond the last block":       {From: 2, Count: 3, Key: 5},
		"beyond it from the last one": {From: 3, Count: 2, Key: 5},
		"all blocks from the second":  {From: 1, Count: 4, Key: 5},
		"a sum that is so":            {From: -1, Count: 4, Key: 5},
		"a sum that is so, backwards": {From: 4, Count: -1, Key: 5},
		"all at the greatest":         {From: math.MaxInt64, Count: math.MaxInt64, Key: math.MaxInt64},
		"all at the least":            {From: math.MinInt64, Count: math.MinInt64, Key: math.MinInt64},
		"a sum that wraps to 0":       {From: math.MinInt64, Count: math.MinInt64, Key: 5},
		"a sum that wraps below 0":    {From: math.MaxInt64, Count: math.MaxInt64, Key: 5},
	}
	for what, far := range map[string]int64{"the greatest": math.MaxInt64, "the least": math.MinInt64, "2 to the 32": 1 << 32, "-2 to the 32": -1 << 32, "2 to the 32 and 1": 1<<32 + 1, "2 to the 16 and 1": 1<<16 + 1} {
		list["Key "+what] = impl.Extent{From: 1, Count: 2, Key: far}
		list["From "+what] = impl.Extent{From: far, Count: 2, Key: 5}
		list["Count "+what] = impl.Extent{From: 1, Count: far, Key: 5}
	}
	return list
}

func faultyKerns() []kernCase {
	kerns := []kernCase{
		{"one extent more", kernOf(60, row(9)...), impl.ErrMany},
		{"very many extents", kernOf(60, make([]impl.Extent, 300)...), impl.ErrMany},
		{"extents without blocks", kernOf(0, row(1)...), impl.ErrRange},
		{"one block in common", kernOf(4, impl.Extent{From: 0, Count: 2, Key: 5}, impl.Extent{From: 1, Count: 2, Key: 6}), impl.ErrForm},
		{"one block in common, of one key", kernOf(4, impl.Extent{From: 0, Count: 3, Key: 5}, impl.Extent{From: 2, Count: 2, Key: 5}), impl.ErrForm},
		{"twice the same", kernOf(4, impl.Extent{From: 1, Count: 1, Key: 5}, impl.Extent{From: 1, Count: 1, Key: 5}), impl.ErrForm},
		{"one within the other", kernOf(4, impl.Extent{From: 0, Count: 4, Key: 5}, impl.Extent{From: 2, Count: 1, Key: 6}), impl.ErrForm},
		{"not rising, touching", kernOf(4, impl.Extent{From: 2, Count: 2, Key: 5}, impl.Extent{From: 0, Count: 2, Key: 6}), impl.ErrForm},
		{"not rising, apart", kernOf(4, impl.Extent{From: 3, Count: 1, Key: 5}, impl.Extent{From: 0, Count: 1, Key: 6}), impl.ErrForm},
		{"the third one not rising", kernOf(6, impl.Extent{From: 0, Count: 1, Key: 5}, impl.Extent{From: 3, Count: 2, Key: 5}, impl.Extent{From: 1, Count: 1, Key: 6}), impl.ErrForm},
	}
	for what, e := range wrongExtents() {
		kerns = append(kerns, kernCase{what, kernOf(4, e), impl.ErrRange})
	}
	for _, c := range append(faultyDisks(), disksOfSeveral()...) {
		kerns = append(kerns, kernCase{c.what, impl.Kern{Disk: c.disk}, c.code})
	}
	return kerns
}

// kernsOfSeveral have more than one fault: which one comes first?
func kernsOfSeveral() []kernCase {
	good, wrong := impl.Extent{From: 1, Count: 2, Key: 5}, impl.Extent{From: 3, Count: 1, Key: 0}
	kerns := []kernCase{
		{"how many ahead of which", kernOf(4, append(row(8), wrong)...), impl.ErrMany},
		{"how many ahead of the first one", kernOf(4, append(extents(wrong), row(8)...)...), impl.ErrMany},
		{"how many ahead of their order", kernOf(4, append(row(4), row(5)...)...), impl.ErrMany},
		{"bounds ahead of order, in one extent", kernOf(4, good, impl.Extent{From: 1, Count: 2, Key: 0}), impl.ErrRange},
		{"bounds of From ahead of order", kernOf(4, good, impl.Extent{From: -1, Count: 2, Key: 5}), impl.ErrRange},
		{"extent by extent: order, then bounds", kernOf(4, good, good, wrong), impl.ErrForm},
		{"extent by extent: bounds, then order", kernOf(4, wrong, good, good), impl.ErrRange},
		{"extent by extent: bounds, then order to it", kernOf(4, good, wrong, good), impl.ErrRange},
		{"order to one that is wrong", kernOf(4, impl.Extent{From: 2, Count: 3, Key: 5}, good), impl.ErrRange},
	}
	for _, c := range append(faultyDisks(), disksOfSeveral()...) {
		kerns = append(kerns,
			kernCase{c.what + " ahead of how many", impl.Kern{Disk: c.disk, Extents: row(9)}, c.code},
			kernCase{c.what + " ahead of bounds", impl.Kern{Disk: c.disk, Extents: extents(wrong)}, c.code},
			kernCase{c.what + " ahead of order", impl.Kern{Disk: c.disk, Extents: append(row(1), row(1)...)}, c.code})
	}
	return kerns
}

func allKerns() []kernCase {
	return append(append(soundKerns(), faultyKerns()...), kernsOfSeveral()...)
}

func TestKernFault(t *testing.T) {
	for _, c := range allKerns() {
		wantCode(t, c.what, impl.KernFault(c.kern), c.code)
	}
}

func TestKernFaultComesFirst(t *testing.T) {
	for _, c := range append(faultyKerns(), kernsOfSeveral()...) {
		for _, n := range []int64{0, -1, 1, 7, 60, math.MaxInt64} {
			wantNoKern(t, c.what+": GrantExtent", impl.GrantExtent(c.kern, n, n, n), c.code)
			wantNoKern(t, c.what+": RevokeExtent", impl.RevokeExtent(c.kern, n, n), c.code)
			if r := impl.OwnerOf(c.kern, n); !same(r, impl.IntResult{Code: c.code}) {
				t.Errorf("%s: OwnerOf %v, not code %d alone", c.what, r, c.code)
			}
			for _, words := range [][]int64{nil, fill(65, 0), list(-1)} {
				wantNoKern(t, c.what+": WriteKern", impl.WriteKern(c.kern, n, n, words), c.code)
			}
			wantNoKern(t, c.what+": ReadKern", impl.ReadKern(c.kern, n, n), c.code)
			wantNoKern(t, c.what+": FlushKern", impl.FlushKern(c.kern, n), c.code)
		}
	}
}

func TestNewKernCodes(t *testing.T) {
	for _, size := range []int64{-1, 61, math.MinInt64, math.MaxInt64, 1 << 32, 1<<32 + 4} {
		wantNoKern(t, "NewKern", impl.NewKern(size), impl.ErrRange)
	}
}

func TestGrantExtentCodes(t *testing.T) {
	for what, e := range wrongExtents() {
		wantNoKern(t, what, impl.GrantExtent(kernOf(4), e.From, e.Count, e.Key), impl.ErrRange)
		taken := kernOf(4, impl.Extent{From: 0, Count: 4, Key: 5})
		wantNoKern(t, what+" ahead of what is taken", impl.GrantExtent(taken, e.From, e.Count, e.Key), impl.ErrRange)
	}
	wantNoKern(t, "no blocks", impl.GrantExtent(kernOf(0), 0, 1, 5), impl.ErrRange)
	full := kernOf(9, row(8)...)
	wantNoKern(t, "bounds ahead of how many", impl.GrantExtent(full, 8, 2, 5), impl.ErrRange)
	wantNoKern(t, "what is taken ahead of how many", impl.GrantExtent(full, 7, 2, 5), impl.ErrTaken)
	wantNoKern(t, "how many", impl.GrantExtent(full, 8, 1, 5), impl.ErrMany)
	seven := kernOf(9, row(7)...)
	wantKern(t, "the last one", impl.GrantExtent(seven, 7, 1, 8), full)
	for _, key := range []int64{1, 2, 9998, 9999} {
		wantKern(t, "a Key", impl.GrantExtent(kernOf(4), 1, 3, key), kernOf(4, impl.Extent{From: 1, Count: 3, Key: key}))
	}
	for from := range int64(4) {
		for count := int64(1); from+count <= 4; count++ {
			wantKern(t, "a place", impl.GrantExtent(kernOf(4), from, count, 5), kernOf(4, impl.Extent{From: from, Count: count, Key: 5}))
		}
	}
}

func TestRevokeExtentCodes(t *testing.T) {
	k := kernOf(6, impl.Extent{From: 1, Count: 3, Key: 5}, impl.Extent{From: 4, Count: 1, Key: 6})
	for _, from := range []int64{0, 2, 3, 5, 6, -1, 61, math.MinInt64, math.MaxInt64, 1<<32 + 1, 1<<16 + 4} {
		for _, key := range []int64{5, 6, 0, -1, 10000} {
			wantNoKern(t, "none begins there", impl.RevokeExtent(k, from, key), impl.ErrNone)
		}
	}
	for _, key := range []int64{6, 4, 0, -5, 10000, 1<<16 + 5, math.MinInt64, math.MaxInt64} {
		wantNoKern(t, "another key", impl.RevokeExtent(k, 1, key), impl.ErrKey)
	}
	wantNoKern(t, "no extents", impl.RevokeExtent(kernOf(6), 0, 0), impl.ErrNone)
	wantNoKern(t, "no blocks", impl.RevokeExtent(impl.Kern{}, 0, 5), impl.ErrNone)
}

func TestOwnerOfCodes(t *testing.T) {
	k := kernOf(3, impl.Extent{From: 1, Count: 1, Key: 9999})
	for at, code := range map[int64]int64{0: impl.ErrNone, 1: impl.OK, 2: impl.ErrNone, 3: impl.ErrRange, -1: impl.ErrRange, math.MinInt64: impl.ErrRange, math.MaxInt64: impl.ErrRange, 1<<32 + 1: impl.ErrRange} {
		want := impl.IntResult{Code: code}
		if code == impl.OK {
			want.Value = 9999
		}
		if r := impl.OwnerOf(k, at); r != want {
			t.Errorf("OwnerOf(%d): %v, not %v", at, r, want)
		}
		for _, key := range []int64{8, 0, 10000} {
			other := code
			if code == impl.OK {
				other = impl.ErrKey
			}
			wantNoKern(t, "WriteKern", impl.WriteKern(k, key, at, nil), other)
			wantNoKern(t, "ReadKern", impl.ReadKern(k, key, at), other)
		}
	}
	wantCode(t, "no blocks", impl.OwnerOf(impl.Kern{}, 0).Code, impl.ErrRange)
}

func TestWriteKernCodes(t *testing.T) {
	held := extents(impl.Extent{From: 0, Count: 1, Key: 5})
	roomy := impl.Kern{Disk: impl.Disk{Blocks: emptyBlocks(2), Cache: emptyPuts(199)}, Extents: held}
	full := impl.Kern{Disk: impl.Disk{Blocks: emptyBlocks(2), Cache: emptyPuts(200)}, Extents: held}
	for _, c := range []struct {
		what    string
		kern    impl.Kern
		key, at int64
		words   []int64
		code    int64
	}{
		{"MaxWords words", roomy, 5, 0, fill(64, 65535), impl.OK},
		{"one word more", roomy, 5, 0, fill(65, 0), impl.ErrMany},
		{"a word below 0", roomy, 5, 0, list(-1), impl.ErrRange},
		{"a word above 65535", roomy, 5, 0, list(65536), impl.ErrRange},
		{"how many words ahead of which", roomy, 5, 0, fill(65, -1), impl.ErrMany},
		{"one in Cache more", full, 5, 0, nil, impl.ErrMany},
		{"which words ahead of how many in Cache", full, 5, 0, list(-1), impl.ErrRange},
		{"place ahead of words", roomy, 5, 2, fill(65, 0), impl.ErrRange},
		{"nobody's ahead of words", roomy, 5, 1, fill(65, 0), impl.ErrNone},
		{"nobody's ahead of how many in Cache", full, 5, 1, nil, impl.ErrNone},
		{"key ahead of words", roomy, 6, 0, list(-1), impl.ErrKey},
		{"key ahead of how many in Cache", full, 6, 0, nil, impl.ErrKey},
	} {
		r := impl.WriteKern(c.kern, c.key, c.at, c.words)
		wantCode(t, c.what, r.Code, c.code)
		if c.code != impl.OK {
			wantNoKern(t, c.what, r, c.code)
		}
	}
	wantCode(t, "reading with a full Cache", impl.ReadKern(full, 5, 0).Code, impl.OK)
	wantCode(t, "flushing a full Cache", impl.FlushKern(full, 5).Code, impl.OK)
}
