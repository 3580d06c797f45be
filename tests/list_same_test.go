package tests

import (
	"fmt"
	"slices"
	"strings"
	"testing"

	"loop.example/g00295/impl"
)

// wantSameTrees asks both ways round. Two that are the same have the same items
// and the same text, as promise 12 has it.
func wantSameTrees(t *testing.T, what string, a, b impl.Fs, want bool) {
	t.Helper()
	if impl.SameTrees(a, b) != want || impl.SameTrees(b, a) != want {
		t.Errorf("%s: SameTrees of %v and %v is not %v", what, a, b, want)
	}
	if !want {
		return
	}
	wantItems(t, what+": the items of the other", impl.ItemsOf(b), impl.ItemsOf(a).Items)
	wantText(t, what+": the text of the other", impl.TreeText(b), impl.TreeText(a).Text)
}

// moved is the same tree, with all inodes but the first and all blocks at other
// places.
func moved(d *dice, f impl.Fs) impl.Fs {
	next := shuffled(d, f)
	order := diceOrder(d)
	next.Data = make([][]byte, 20)
	for block, held := range f.Data {
		next.Data[order[block]] = held
	}
	for i := range next.Inodes {
		next.Inodes[i].Blocks = slices.Clone(next.Inodes[i].Blocks)
		for j, block := range next.Inodes[i].Blocks {
			next.Inodes[i].Blocks[j] = order[block]
		}
	}
	if n := int64(len(next.Inodes)); n < 10 {
		next.Inodes = append(next.Inodes, alike(int(d.below(10-n+1)), kind(0))...)
	}
	return next
}

// mason builds a tree anew by calls, with a file between them that is dropped.
type mason struct {
	t     *testing.T
	d     *dice
	fs    impl.Fs
	waste string
}

// try does a call if it can be done.
func (m *mason) try(c impl.Call, busy []int64) bool {
	r := impl.DoCall(m.fs, c, busy)
	if r.Code == impl.OK && r.Reply == impl.OK {
		m.fs = r.Fs
		return true
	}
	return false
}

// do drops the file between where a call has no room beside it.
func (m *mason) do(c impl.Call) {
	m.t.Helper()
	if m.try(c, nil) {
		return
	}
	m.clear()
	if !m.try(c, nil) {
		m.t.Fatalf("%v cannot be done in %v", c, m.fs)
	}
}

func (m *mason) clear() {
	if m.waste != "" {
		m.try(call(impl.CallUnlink, m.waste), nil)
		m.waste = ""
	}
}

func (m *mason) litter() {
	m.clear()
	if path := "/zz"; m.try(call(impl.CallMake, path), nil) {
		m.waste = path
		m.try(write(path, m.d.below(9), string(diceText(m.d, m.d.below(24)))), nil)
	}
}

// file writes a text in two parts, the second one first now and then, and with
// busy blocks, so that it stands elsewhere; or at once where there is no room
// for that.
func (m *mason) file(path string, text []byte) {
	m.do(call(impl.CallMake, path))
	if m.d.below(2) == 0 {
		m.litter()
	}
	cutAt := m.d.below(int64(len(text)) + 1)
	first, second := write(path, 0, string(text[:cutAt])), write(path, cutAt, string(text[cutAt:]))
	if m.d.below(2) == 0 {
		first, second = second, first
	}
	if !m.try(first, diceBusy(m.d)) || !m.try(second, diceBusy(m.d)) {
		m.do(cut(path, 0))
		m.do(write(path, 0, string(text)))
	}
}

// rebuilt makes the tree of a file system anew, in an order of paths by dice.
// None of its paths may be too deep.
func rebuilt(t *testing.T, d *dice, f impl.Fs) impl.Fs {
	t.Helper()
	m := mason{t: t, d: d, fs: impl.NewFs(nil).Fs}
	ways, left := modelWays(f), modelPaths(f)
	done := map[string]bool{"": true}
	made := map[int64]string{}
	for len(left) > 0 {
		i := int(d.below(int64(len(left))))
		path := left[i]
		if !done[path[:strings.LastIndexByte(path, '/')]] {
			continue
		}
		left = slices.Delete(left, i, i+1)
		if d.below(3) == 0 {
			m.litter()
		}
		at := ways[path]
		switch {
		case f.Inodes[at].Kind == impl.KindDir:
			m.do(call(impl.CallDir, path))
		case made[at] != "":
			m.do(link(made[at], path))
		default:
			m.file(path, modelText(f, at))
		}
		done[path], made[at] = true, path
	}
	m.clear()
	return m.fs
}

func TestSameTreesByCalls(t *testing.T) {
	f := impl.RunCalls(impl.NewFs(nil).Fs, []impl.Call{
		call(impl.CallDir, "/d"), call(impl.CallMake, "/d/a"), write("/d/a", 0, "hello, all"), link("/d/a", "/z"), call(impl.CallMake, "/b"), write("/b", 0, "bye"), call(impl.CallMake, "/e"),
	}).Fs
	g := impl.RunCalls(impl.NewFs(nil).Fs, []impl.Call{
		call(impl.CallMake, "/x"), write("/x", 0, "waste"), call(impl.CallMake, "/e"), call(impl.CallMake, "/z"), write("/z", 5, ", all"), call(impl.CallMake, "/b"), call(impl.CallDir, "/y"),
		call(impl.CallUnlink, "/x"), link("/z", "/y/a"), write("/y/a", 0, "hello"), write("/b", 0, "bye and more"), rename("/y", "/d"), cut("/b", 3), call(impl.CallDir, "/x"), call(impl.CallRemove, "/x"),
	}).Fs
	if impl.SameFs(f, g) || same(f.Inodes[1], g.Inodes[1]) {
		t.Error("all stands where it stood")
	}
	wantSameTrees(t, "by calls", f, g, true)
	const text = "/b file 1 3 bye\n/d dir 1\n/d/a file 2 10 hello..all\n/e file 1 0 -\n/z file 2 10 hello..all\n"
	wantText(t, "the first", impl.TreeText(f), text)
	wantText(t, "the second", impl.TreeText(g), text)
}

// Trees by dice, moved and made anew by calls; then one of them turns.
func TestSameTreesByDice(t *testing.T) {
	d := dice(23)
	elsewhere, anew, turned, stayed := 0, 0, 0, 0
	for row := range 500 {
		f := diceTree(&d)
		what := fmt.Sprint("row ", row, ": ", f)
		others := []impl.Fs{moved(&d, f)}
		if len(modelPaths(f)) == howManyEntries(f) {
			others = append(others, rebuilt(t, &d, f), rebuilt(t, &d, f))
			anew++
		}
		for _, g := range others {
			wantCode(t, what, impl.FsFault(g), impl.OK)
			wantSameTrees(t, what, f, g, true)
			if !impl.SameFs(f, g) {
				elsewhere++
			}
			for range 4 {
				g = impl.DoCall(g, diceCall(&d, modelPaths(g)), nil).Fs
				alike := same(modelItems(f), modelItems(g))
				wantSameTrees(t, what+" and a call more", f, g, alike)
				if alike {
					stayed++
				} else {
					turned++
				}
			}
		}
		if t.Failed() {
			t.FailNow()
		}
	}
	if elsewhere < 500 || anew < 200 || turned < 500 || stayed < 500 {
		t.Errorf("%d elsewhere, %d made anew, %d turned, %d stayed", elsewhere, anew, turned, stayed)
	}
}

func howManyEntries(f impl.Fs) int {
	n := 0
	for _, x := range f.Inodes {
		n += len(x.Entries)
	}
	return n
}

// Of all trees by hand two are the same only where their items are.
func TestSameTreesOfAll(t *testing.T) {
	all := itemTrees()
	for i, a := range all {
		for j, b := range all {
			if want := same(a.items, b.items); want || i < j {
				wantSameTrees(t, a.what+", "+b.what, a.fs, b.fs, want)
			}
		}
	}
}

// pair is two file systems that differ in one thing alone; text tells whether
// their texts differ as well.
type pair struct {
	what string
	a, b impl.Fs
	text bool
}

func namePairs() []pair {
	one := file(1, 3, 0)
	return []pair{
		{"a name", tree(dir(entry("a", 1)), one), tree(dir(entry("b", 1)), one), true},
		{"the last byte of a name", tree(dir(entry("abcd", 1)), one), tree(dir(entry("abce", 1)), one), true},
		{"a name that is longer", tree(dir(entry("a", 1)), one), tree(dir(entry("aa", 1)), one), true},
		{"the name of a directory", tree(dir(entry("a", 1)), dir()), tree(dir(entry("b", 1)), dir()), true},
		{"a name that is not the first", tree(dir(entry("a", 1), entry("b", 1)), file(2, 3, 0)), tree(dir(entry("a", 1), entry("c", 1)), file(2, 3, 0)), true},
		{"a name below", tree(dir(entry("a", 1)), dir(entry("a", 2)), one), tree(dir(entry("a", 1)), dir(entry("b", 2)), one), true},
		{"the directory of a name", tree(dir(entry("a", 1), entry("b", 2)), dir(entry("x", 3)), dir(), one), tree(dir(entry("a", 1), entry("b", 2)), dir(), dir(entry("x", 3)), one), true},
		{"one name more", tree(dir(entry("a", 1)), one), tree(dir(entry("a", 1), entry("b", 1)), file(2, 3, 0)), true},
		{"two names that change places", tree(dir(entry("a", 1), entry("b", 2)), one, file(1, 4, 5)), tree(dir(entry("a", 2), entry("b", 1)), one, file(1, 4, 5)), true},
		{"an empty file against none", tree(dir(entry("a", 1), entry("b", 2)), one, file(1, 0)), tree(dir(entry("a", 1)), one), true},
		{"an empty file against nothing", tree(dir(entry("a", 1)), file(1, 0)), tree(dir()), true},
		{"an empty directory against none", tree(dir(entry("a", 1), entry("b", 2)), one, dir()), tree(dir(entry("a", 1)), one), true},
		{"an empty directory against nothing", tree(dir(entry("a", 1)), dir()), tree(dir()), true},
		{"a kind", tree(dir(entry("a", 1)), file(1, 0)), tree(dir(entry("a", 1)), dir()), true},
		{"a kind below", tree(dir(entry("a", 1)), dir(entry("a", 2)), file(1, 0)), tree(dir(entry("a", 1)), dir(entry("a", 2)), dir()), true},
	}
}

// linkPairs differ in Links, or in what is one file; the last of them in what
// comes first alone, which no text tells.
func linkPairs() []pair {
	deeper := ladder("a", file(2, 9, 3, 4))
	deeper.Inodes[0].Entries = []impl.Entry{entry("a", 1), entry("b", 9)}
	wider := ladder("a", file(3, 9, 3, 4))
	wider.Inodes[0].Entries = deeper.Inodes[0].Entries
	wider.Inodes[8].Entries = []impl.Entry{entry("a", 9), entry("b", 9)}
	abcd := func(a, b, c, d int64) impl.Inode {
		return dir(entry("a", a), entry("b", b), entry("c", c), entry("d", d))
	}
	two, three := inodes(file(2, 0), file(2, 0)), inodes(file(2, 0), file(1, 0), file(1, 0))
	return []pair{
		{"one link, too deep to be told", deeper, wider, true},
		{"two names against two files", tree(dir(entry("a", 1), entry("b", 1)), file(2, 0)), tree(dir(entry("a", 1), entry("b", 2)), file(1, 0), file(1, 0)), true},
		{"two names against two files, below", tree(dir(entry("a", 1)), dir(entry("a", 2), entry("b", 2)), file(2, 0)), tree(dir(entry("a", 1)), dir(entry("a", 2), entry("b", 3)), file(1, 0), file(1, 0)), true},
		{"which names are two of one file", tree(append(inodes(abcd(1, 1, 2, 3)), three...)...), tree(append(inodes(abcd(2, 1, 1, 3)), three...)...), true},
		{"a and b, c and d against a and c, b and d", tree(append(inodes(abcd(1, 1, 2, 2)), two...)...), tree(append(inodes(abcd(1, 2, 1, 2)), two...)...), false},
		{"a and c, b and d against a and d, b and c", tree(append(inodes(abcd(1, 2, 1, 2)), two...)...), tree(append(inodes(abcd(1, 2, 2, 1)), two...)...), false},
	}
}

// textPairs differ in one byte of a file of each of these lengths.
func textPairs() []pair {
	var all []pair
	for _, n := range []int{1, 2, 8, 9, 16, 17, 32} {
		text := []byte(strings.Repeat("abcdefgh", 4)[:n])
		for _, at := range []int{0, n / 2, n - 1} {
			turned := slices.Clone(text)
			turned[at] = 'z'
			all = append(all, pair{fmt.Sprint("byte ", at, " of ", n), withText(text, 1), withText(turned, 1), true})
			turned = slices.Clone(text)
			turned[at] = 0
			other := slices.Clone(text)
			other[at] = 255
			all = append(all, pair{fmt.Sprint("byte ", at, " of ", n, ", neither of a to z"), withText(other, 7), withText(turned, 7), false})
		}
		all = append(all, pair{fmt.Sprint("one fewer than ", n), withText(text, 1), withText(text[:n-1], 1), true})
		if n < 32 {
			all = append(all, pair{fmt.Sprint("a byte 0 behind ", n), withText(text, 1), withText(append(slices.Clone(text), 0), 1), true})
		}
	}
	return all
}

func TestTreesThatDifferInOneThing(t *testing.T) {
	d := dice(24)
	for _, c := range slices.Concat(namePairs(), linkPairs(), textPairs()) {
		wantCode(t, c.what, impl.FsFault(c.a), impl.OK)
		wantCode(t, c.what, impl.FsFault(c.b), impl.OK)
		wantSameTrees(t, c.what, c.a, c.b, false)
		for range 3 {
			wantSameTrees(t, c.what+", moved", moved(&d, c.a), moved(&d, c.b), false)
			wantSameTrees(t, c.what+", the first moved", c.a, moved(&d, c.a), true)
			wantSameTrees(t, c.what+", the second moved", c.b, moved(&d, c.b), true)
		}
		if (impl.TreeText(c.a) != impl.TreeText(c.b)) != c.text {
			t.Errorf("%s: the texts %q and %q", c.what, impl.TreeText(c.a).Text, impl.TreeText(c.b).Text)
		}
	}
}

// What is too deep to be told is not seen, but for Links.
func TestSameTreesTooDeep(t *testing.T) {
	wantSameTrees(t, "a file against a directory", ladder("a", file(1, 9, 3, 4)), ladder("a", dir()), true)
	wantSameTrees(t, "a byte more", ladder("a", file(1, 9, 3, 4)), ladder("a", file(1, 10, 3, 4)), true)
	seven, six := rungs("a", 7), rungs("a", 6)
	f := impl.NewFs(nil).Fs
	for _, path := range six {
		f = wantDone(t, "a row", f, call(impl.CallDir, path), nil, impl.CallResult{Value: int64(len(f.Inodes))})
	}
	g := wantDone(t, "beside it", f, call(impl.CallDir, "/b"), nil, impl.CallResult{Value: 7})
	g = wantDone(t, "below it", g, rename("/a", "/b/a"), nil, impl.CallResult{})
	wantSameTrees(t, "seven in a row", g, moved(new(dice), g), true)
	wantItems(t, "seven in a row", impl.ItemsOf(g), items(dirItem("/b"), dirItem("/b/a"), dirItem("/b/a/a"), dirItem("/b/a/a/a"), dirItem("/b/a/a/a/a"), dirItem("/b/a/a/a/a/a")))
	wantNoText(t, "seven in a row", impl.PathOf(g, 6), impl.ErrNone)
	wantText(t, "six in a row", impl.PathOf(f, 6), six[5])
	wantNoNumber(t, "seven in a row", impl.WalkPath(f, seven[6]), impl.ErrMany)
}

// A wrong file system is the same as none, not even as itself.
func TestSameTreesOfWrongOnes(t *testing.T) {
	var wrong []codedTree
	for _, c := range faultyTrees() {
		if c.code != impl.OK {
			wrong = append(wrong, c)
		}
	}
	for i, c := range wrong {
		for _, good := range []impl.Fs{tree(dir()), tree(dir(entry("a", 1)), file(1, 9, 3, 4)), mostPaths().fs} {
			wantSameTrees(t, c.what+", and a whole one", c.fs, good, false)
		}
		wantSameTrees(t, c.what+", and itself", c.fs, c.fs, false)
		for _, other := range wrong[i+1:] {
			wantSameTrees(t, c.what+", and "+other.what, c.fs, other.fs, false)
		}
	}
}
