package tests

import (
	"fmt"
	"maps"
	"slices"
	"testing"

	"loop.example/g00295/impl"
)

// modelDirCode is the code that all of chapter 8 asks first.
func modelDirCode(f impl.Fs, in int64) int64 {
	if code := modelReachCode(f); code != impl.OK {
		return code
	}
	switch {
	case !among(upTo(int64(len(f.Inodes))), in):
		return impl.ErrRange
	case f.Inodes[in].Kind != impl.KindDir:
		return impl.ErrDir
	}
	return impl.OK
}

// leadsOf tells which name of a directory leads where, in no order.
func leadsOf(x impl.Inode) map[string]int64 {
	leads := map[string]int64{}
	for _, e := range x.Entries {
		leads[e.Name] = e.Inode
	}
	return leads
}

func entriesOf(leads map[string]int64) []impl.Entry {
	var list []impl.Entry
	for _, name := range slices.Sorted(maps.Keys(leads)) {
		list = append(list, entry(name, leads[name]))
	}
	return list
}

// modelAdd is asked where the code of the directory, and that of the name, are
// OK.
func modelAdd(a naming) impl.FsResult {
	leads := leadsOf(a.fs.Inodes[a.in])
	if _, taken := leads[a.name]; taken {
		return impl.FsResult{Code: impl.ErrTaken}
	}
	if !among(thereIn(a.fs), a.at) {
		return impl.FsResult{Code: impl.ErrNone}
	}
	if len(leads) == 6 || a.fs.Inodes[a.at].Links == 60 {
		return impl.FsResult{Code: impl.ErrMany}
	}
	leads[a.name] = a.at
	next := impl.Fs{Inodes: slices.Clone(a.fs.Inodes), Data: a.fs.Data}
	next.Inodes[a.in].Entries = entriesOf(leads)
	if next.Inodes[a.at].Kind == impl.KindFile {
		next.Inodes[a.at].Links++
	}
	return impl.FsResult{Fs: next}
}

// modelDrop is asked where the code of the directory, and that of the name,
// are OK.
func modelDrop(a naming) impl.FsResult {
	leads := leadsOf(a.fs.Inodes[a.in])
	at, found := leads[a.name]
	if !found {
		return impl.FsResult{Code: impl.ErrNone}
	}
	delete(leads, a.name)
	next := impl.Fs{Inodes: slices.Clone(a.fs.Inodes), Data: slices.Clone(a.fs.Data)}
	next.Inodes[a.in].Entries = entriesOf(leads)
	x := &next.Inodes[at]
	if x.Kind != impl.KindFile {
		return impl.FsResult{Fs: next}
	}
	x.Links--
	if x.Links == 0 && modelLinks(a.fs.Inodes, at) > 1 {
		x.Links = 1
	}
	if x.Links == 0 {
		for _, block := range x.Blocks {
			next.Data[block] = nil
		}
		*x = kind(0)
	}
	return impl.FsResult{Fs: next}
}

// checkNamed holds all functions against the model, and gives the codes of
// LookName, AddName and DropName.
func checkNamed(t *testing.T, a naming) [3]int64 {
	t.Helper()
	what := fmt.Sprintf("in %d, name %q, at %d of %v", a.in, a.name, a.at, a.fs)
	code := modelDirCode(a.fs, a.in)
	if code != impl.OK {
		wantDirCode(t, what, a.fs, a.in, code)
		return [3]int64{code, code, code}
	}
	wantNames(t, "NamesIn "+what, impl.NamesIn(a.fs, a.in), namesOf(a.fs.Inodes[a.in]))
	look, add, drop := impl.LookName(a.fs, a.in, a.name), impl.AddName(a.fs, a.in, a.name, a.at), impl.DropName(a.fs, a.in, a.name)
	if code = impl.NameFault(a.name); code != impl.OK {
		wantNoNumber(t, "LookName "+what, look, code)
		wantNoFs(t, "AddName "+what, add, code)
		wantNoFs(t, "DropName "+what, drop, code)
		return [3]int64{code, code, code}
	}
	if at, found := leadsOf(a.fs.Inodes[a.in])[a.name]; found {
		wantNumber(t, "LookName "+what, look, at)
	} else {
		wantNoNumber(t, "LookName "+what, look, impl.ErrNone)
	}
	if want := modelAdd(a); !same(add, want) {
		t.Errorf("AddName %s: %v, not %v", what, add, want)
	}
	if want := modelDrop(a); !same(drop, want) {
		t.Errorf("DropName %s: %v, not %v", what, drop, want)
	}
	if add.Code == impl.OK {
		wantFs(t, "added and dropped again: "+what, impl.DropName(add.Fs, a.in, a.name), a.fs)
	}
	return [3]int64{look.Code, add.Code, drop.Code}
}

// diceLoosen turns what chapter 8 does not ask for.
func diceLoosen(d *dice, f *impl.Fs) {
	for range d.below(4) {
		at := d.below(int64(len(f.Inodes)))
		x := &f.Inodes[at]
		switch {
		case x.Kind == impl.KindFile && d.below(2) == 0:
			x.Links = list(1, 1, 2, 3, 59, 60)[d.below(6)]
		case len(x.Entries) > 0:
			there := thereIn(*f)
			x.Entries[d.below(int64(len(x.Entries)))].Inode = there[d.below(int64(len(there)))]
		default:
			f.Data[d.below(20)] = diceText(d, d.below(9))
		}
	}
}

// diceNaming is mostly right, and each part of it wrong now and then.
func diceNaming(d *dice, f impl.Fs) naming {
	dirs := append(dirsIn(f), 0)
	a := naming{fs: f, in: dirs[d.below(int64(len(dirs)))], at: d.below(int64(len(f.Inodes)) + 1)}
	some := names("a", "ab", "abc", "abcd", "b", "ba", "c", "zzzz")
	a.name = some[d.below(8)]
	if a.in < int64(len(f.Inodes)) && len(f.Inodes[a.in].Entries) > 0 && d.below(2) == 0 {
		a.name = f.Inodes[a.in].Entries[d.below(int64(len(f.Inodes[a.in].Entries)))].Name
	}
	switch d.below(16) {
	case 0:
		a.in = list(-1, int64(len(f.Inodes)), d.below(11))[d.below(3)]
	case 1:
		a.name = names("", "A", "abcde", "a/")[d.below(4)]
	case 2:
		a.at = list(-1, 10)[d.below(2)]
	}
	return a
}

func TestDirsAgainstModel(t *testing.T) {
	d := dice(10)
	var count [3][11]int
	for range 12000 {
		f := diceTree(&d)
		if d.below(2) == 0 {
			diceLoosen(&d, &f)
		}
		if d.below(8) == 0 {
			diceFault(&d, &f)
		}
		for i, code := range checkNamed(t, diceNaming(&d, f)) {
			count[i][code]++
		}
		if t.Failed() {
			t.FailNow()
		}
	}
	for i := range count {
		for _, code := range []int{impl.OK, impl.ErrForm, impl.ErrMany, impl.ErrRange, impl.ErrNone, impl.ErrText, impl.ErrDir, impl.ErrTaken} {
			if count[i][code] == 0 {
				t.Errorf("no call had code %d: %v", code, count[i])
			}
		}
	}
}

// shelf is which name leads where, by directory, kept by hand.
type shelf map[int64]map[string]int64

func (s shelf) check(t *testing.T, what string, f impl.Fs) {
	t.Helper()
	for in, leads := range s {
		wantNames(t, what, impl.NamesIn(f, in), slices.Sorted(maps.Keys(leads)))
		for name, at := range leads {
			wantNumber(t, what, impl.LookName(f, in, name), at)
		}
	}
}

func (s shelf) leadTo(at int64) int64 {
	var n int64
	for _, leads := range s {
		for _, to := range leads {
			if to == at {
				n++
			}
		}
	}
	return n
}

// Names of files are added and dropped one behind the other. The tree stays
// whole, and a file is there as long as it has a name.
func TestNamesComeAndGo(t *testing.T) {
	for seed := range dice(80) {
		d := seed
		f := diceTree(&d)
		s := shelf{}
		for _, in := range dirsIn(f) {
			s[in] = leadsOf(f.Inodes[in])
		}
		for step := range 60 {
			what := fmt.Sprint("row ", seed, ", step ", step)
			a := diceNaming(&d, f)
			if modelDirCode(f, a.in) != impl.OK {
				continue
			}
			at, found := s[a.in][a.name]
			switch {
			case d.below(2) == 0:
				r := impl.AddName(f, a.in, a.name, a.at)
				if r.Code == impl.OK && f.Inodes[a.at].Kind == impl.KindFile {
					f, s[a.in][a.name] = r.Fs, a.at
				}
			case found && f.Inodes[at].Kind == impl.KindFile:
				r := impl.DropName(f, a.in, a.name)
				wantCode(t, what, r.Code, impl.OK)
				f = r.Fs
				delete(s[a.in], a.name)
				if (f.Inodes[at].Kind == impl.KindFree) != (s.leadTo(at) == 0) {
					t.Errorf("%s: %d is free, and has a name, or neither", what, at)
				}
			}
			s.check(t, what, f)
			wantCode(t, what+": FsFault", impl.FsFault(f), impl.OK)
		}
		if t.Failed() {
			t.FailNow()
		}
	}
}
