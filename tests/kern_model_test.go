package tests

import (
	"testing"

	"loop.example/g00295/impl"
)

// kernModel is a kern kept by hand: of each block whose it is, where its
// extent begins, and a disk.
type kernModel struct {
	owner []int64
	begin []int64
	count int
	disk  impl.Disk
}

func newKernModel(size int64) *kernModel {
	m := &kernModel{owner: make([]int64, size), begin: make([]int64, size), disk: impl.Disk{Blocks: emptyBlocks(int(size))}}
	for at := range m.begin {
		m.begin[at] = -1
	}
	return m
}

func (m *kernModel) isPlace(at int64) bool {
	return at >= 0 && at < int64(len(m.owner))
}

func (m *kernModel) grant(from, count, key int64) int64 {
	if key < 1 || key > 9999 || count < 1 || !m.isPlace(from) || !m.isPlace(from+count-1) {
		return impl.ErrRange
	}
	for at := from; at < from+count; at++ {
		if m.owner[at] != 0 {
			return impl.ErrTaken
		}
	}
	if m.count == 8 {
		return impl.ErrMany
	}
	for at := from; at < from+count; at++ {
		m.owner[at], m.begin[at] = key, from
	}
	m.count++
	return impl.OK
}

func (m *kernModel) revoke(from, key int64) int64 {
	if !m.isPlace(from) || m.begin[from] != from {
		return impl.ErrNone
	}
	if m.owner[from] != key {
		return impl.ErrKey
	}
	for at := range m.begin {
		if m.begin[at] == from {
			m.owner[at], m.begin[at] = 0, -1
		}
	}
	m.count--
	return impl.OK
}

func (m *kernModel) fault(key, at int64) int64 {
	switch {
	case !m.isPlace(at):
		return impl.ErrRange
	case m.owner[at] == 0:
		return impl.ErrNone
	case m.owner[at] != key:
		return impl.ErrKey
	}
	return impl.OK
}

func (m *kernModel) flush(key int64) int64 {
	for _, owner := range m.owner {
		if owner != 0 && owner == key {
			for _, p := range m.disk.Cache {
				m.disk.Blocks[p.At] = p.Words
			}
			m.disk.Cache = nil
			return impl.OK
		}
	}
	return impl.ErrKey
}

func (m *kernModel) extents() []impl.Extent {
	var list []impl.Extent
	for at, begin := range m.begin {
		if begin < 0 {
			continue
		}
		if begin == int64(at) {
			list = append(list, impl.Extent{From: begin, Key: m.owner[at]})
		}
		list[len(list)-1].Count++
	}
	return list
}

// step asks both for the same thing and gives the kern behind it.
func (m *kernModel) step(t *testing.T, k impl.Kern, x *dice) impl.Kern {
	t.Helper()
	from, key := x.below(12)-1, x.below(4)
	var r impl.KernResult
	var want int64
	switch x.below(8) {
	case 0, 1:
		count := x.below(4)
		r, want = impl.GrantExtent(k, from, count, key), m.grant(from, count, key)
	case 2:
		r, want = impl.RevokeExtent(k, from, key), m.revoke(from, key)
	case 3:
		r, want = impl.FlushKern(k, key), m.flush(key)
	case 4:
		r, want = impl.ReadKern(k, key, from), m.fault(key, from)
		if want == impl.OK && !same(r.Words, impl.BlockAt(m.disk, from).List) {
			t.Fatalf("ReadKern(%d, %d): %v", key, from, r.Words)
		}
	default:
		words := x.words()
		r, want = impl.WriteKern(k, key, from, words), m.fault(key, from)
		if want == impl.OK {
			m.disk.Cache = append(m.disk.Cache, impl.Put{At: from, Words: words})
		}
	}
	if r.Code != want {
		t.Fatalf("code %d, not %d", r.Code, want)
	}
	if want == impl.OK {
		return r.Kern
	}
	wantNoKern(t, "with a code", r, want)
	return k
}

func TestKernAgainstModel(t *testing.T) {
	for seed := range dice(200) {
		x := seed
		k, m := impl.NewKern(10).Kern, newKernModel(10)
		for range 60 {
			k = m.step(t, k, &x)
			wantKern(t, "model", impl.KernResult{Kern: k}, impl.Kern{Disk: m.disk, Extents: m.extents()})
			wantOwners(t, "model", k, m.owner...)
			wantCode(t, "model", impl.KernFault(k), impl.OK)
		}
	}
}
