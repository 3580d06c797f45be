package impl

const OK = 0
const ErrForm = 1
const ErrMany = 2
const ErrRange = 3
const ErrNone = 4
const ErrText = 5
const ErrKey = 6
const ErrTaken = 7
const ErrFull = 8
const ErrDir = 9
const ErrState = 10
const MaxWords = 64
const MaxDisk = 60

// The document gives these two bounds as bare numbers.
const maxCache = 200
const maxWord = 65535

type Put struct {
	At    int64
	Words []int64
}
type Disk struct {
	Blocks [][]int64
	Cache  []Put
}
type DiskResult struct {
	Code int64
	Disk Disk
}
type IntResult struct {
	Code  int64
	Value int64
}
type IntsResult struct {
	Code int64
	List []int64
}
type BytesResult struct {
	Code  int64
	Bytes []byte
}
type TextResult struct {
	Code int64
	Text string
}

// rack keeps a list at each place. It copies what comes in and what goes out,
// so that no two lists of an answer, and no argument, share memory.
type rack[E any] struct {
	lists [][]E
}

func newRack[E any](size int64) rack[E] {
	return rack[E]{lists: make([][]E, size)}
}

func rackOf[E any](lists [][]E) rack[E] {
	r := newRack[E](int64(len(lists)))
	for i, list := range lists {
		r.set(int64(i), list)
	}
	return r
}

func (r *rack[E]) set(at int64, list []E) {
	r.lists[at] = copyOf(list)
}

func (r *rack[E]) get(at int64) []E {
	return copyOf(r.lists[at])
}

// copyOf stands in for slices.Clone, whose answer to an empty list still
// points into the list that it was given.
func copyOf[E any](list []E) []E {
	fresh := make([]E, len(list))
	copy(fresh, list)
	return fresh
}

// drive is a disk at work, in memory of its own, so that it can be changed
// while the disk it was opened from stays as it is.
type drive struct {
	blocks rack[int64]
	cache  []*Put
}

func openDisk(d Disk) *drive {
	v := &drive{blocks: rackOf(d.Blocks)}
	for _, p := range d.Cache {
		v.put(p.At, p.Words)
	}
	return v
}

func (v *drive) put(at int64, words []int64) {
	v.cache = append(v.cache, &Put{At: at, Words: copyOf(words)})
}

// read goes through the cache from its end, since a block may be in it more
// than once and the last put is the one that counts, even if it has no words.
func (v *drive) read(at int64) []int64 {
	for i := len(v.cache) - 1; i >= 0; i-- {
		if v.cache[i].At == at {
			return copyOf(v.cache[i].Words)
		}
	}
	return v.blocks.get(at)
}

func (v *drive) settle(picks []bool) {
	for i, p := range v.cache {
		if i < len(picks) && picks[i] {
			v.blocks.set(p.At, p.Words)
		}
	}
	v.cache = nil
}

func (v *drive) flush() {
	v.settle(allPicked(len(v.cache)))
}

func (v *drive) isFull() bool {
	return len(v.cache) >= maxCache
}

// disk gives the drive's own memory away; the drive is not used behind it.
func (v *drive) disk() Disk {
	d := Disk{Blocks: v.blocks.lists}
	for _, p := range v.cache {
		d.Cache = append(d.Cache, *p)
	}
	return d
}

func allPicked(n int) []bool {
	picks := make([]bool, n)
	for i := range picks {
		picks[i] = true
	}
	return picks
}

func wordsFault(words []int64) int64 {
	if len(words) > MaxWords {
		return ErrMany
	}
	for _, word := range words {
		if word < 0 || word > maxWord {
			return ErrRange
		}
	}
	return OK
}

func isPlace(d Disk, at int64) bool {
	return at >= 0 && at < int64(len(d.Blocks))
}

func putFault(d Disk, p Put) int64 {
	if !isPlace(d, p.At) {
		return ErrRange
	}
	return wordsFault(p.Words)
}

func placeFault(d Disk, at int64) int64 {
	if code := DiskFault(d); code != OK {
		return code
	}
	if !isPlace(d, at) {
		return ErrRange
	}
	return OK
}

func DiskFault(d Disk) int64 {
	if len(d.Blocks) > MaxDisk || len(d.Cache) > maxCache {
		return ErrMany
	}
	for _, words := range d.Blocks {
		if code := wordsFault(words); code != OK {
			return code
		}
	}
	for _, p := range d.Cache {
		if code := putFault(d, p); code != OK {
			return code
		}
	}
	return OK
}

func NewDisk(size int64) DiskResult {
	if size < 0 || size > MaxDisk {
		return DiskResult{Code: ErrRange}
	}
	v := drive{blocks: newRack[int64](size)}
	return DiskResult{Disk: v.disk()}
}

func PutBlock(d Disk, at int64, words []int64) DiskResult {
	if code := placeFault(d, at); code != OK {
		return DiskResult{Code: code}
	}
	if code := wordsFault(words); code != OK {
		return DiskResult{Code: code}
	}
	v := openDisk(d)
	if v.isFull() {
		return DiskResult{Code: ErrMany}
	}
	v.put(at, words)
	return DiskResult{Disk: v.disk()}
}

func BlockAt(d Disk, at int64) IntsResult {
	if code := placeFault(d, at); code != OK {
		return IntsResult{Code: code}
	}
	return IntsResult{List: openDisk(d).read(at)}
}

func FlushDisk(d Disk) DiskResult {
	if code := DiskFault(d); code != OK {
		return DiskResult{Code: code}
	}
	v := openDisk(d)
	v.flush()
	return DiskResult{Disk: v.disk()}
}

func CrashDisk(d Disk, picks []bool) DiskResult {
	if code := DiskFault(d); code != OK {
		return DiskResult{Code: code}
	}
	v := openDisk(d)
	v.settle(picks)
	return DiskResult{Disk: v.disk()}
}
