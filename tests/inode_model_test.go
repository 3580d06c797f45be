package tests

import (
	"strconv"
	"strings"
	"testing"

	"loop.example/g00295/impl"
)

// modelWords writes an inode down as PackInode would, whether it has a fault
// or not.
func modelWords(x impl.Inode) []int64 {
	words := list(x.Kind, x.Links, x.Size)
	words = append(words, x.Blocks...)
	if x.Kind != impl.KindDir {
		return words
	}
	words = append(words, int64(len(x.Entries)))
	for _, e := range x.Entries {
		words = append(words, e.Inode, int64(len(e.Name)))
		for i := 0; i < len(e.Name); i++ {
			words = append(words, int64(e.Name[i]))
		}
	}
	return words
}

func keyOf(words []int64) string {
	var key strings.Builder
	for _, word := range words {
		key.WriteString(strconv.FormatInt(word, 10))
		key.WriteByte(' ')
	}
	return key.String()
}

// modelInodes are all inodes of which the words are at most 8 and all of
// them among 0, 1, 2, 9, 97 and 98, by these words.
func modelInodes() map[string]impl.Inode {
	all := map[string]impl.Inode{}
	add := func(x impl.Inode) {
		all[keyOf(modelWords(x))] = x
	}
	add(impl.Inode{})
	add(dir())
	for _, links := range list(1, 2, 9) {
		add(file(links, 0))
		for _, at := range list(0, 1, 2, 9) {
			add(file(links, 1, at))
			add(file(links, 2, at))
			for _, other := range list(0, 1, 2, 9) {
				if other != at {
					add(file(links, 9, at, other))
				}
			}
		}
	}
	for _, at := range list(0, 1, 2, 9) {
		for _, name := range names("a", "b", "aa", "ab", "ba", "bb") {
			add(dir(entry(name, at)))
		}
	}
	return all
}

// Of all short lists of these words just those are read that are the words
// of an inode.
func TestAllShortWords(t *testing.T) {
	known := modelInodes()
	letters := list(0, 1, 2, 9, 97, 98)
	found := 0
	var walk func(words []int64)
	walk = func(words []int64) {
		r := impl.UnpackInode(words)
		x, sound := known[keyOf(words)]
		switch {
		case len(words) == 0:
			wantInode(t, "no words", r, impl.Inode{})
		case sound:
			found++
			wantInode(t, keyOf(words), r, x)
			wantWords(t, keyOf(words), impl.PackInode(r.Inode), words)
		default:
			wantNoInode(t, keyOf(words), r, impl.ErrText)
		}
		// What has gone wrong in its first words is not followed to its end,
		// or there would be too many lists.
		if len(words) == 8 || len(words) == 4 && words[0] > 2 || len(words) == 5 && words[0] == 2 && words[1] != 0 {
			return
		}
		for _, word := range letters {
			walk(append(words, word))
		}
	}
	walk(make([]int64, 0, 8))
	if found != len(known) {
		t.Errorf("%d inodes are met, not %d", found, len(known))
	}
}

// checkWords asks promise 5 of any words: they are those of the inode that is
// read of them, or none is.
func checkWords(t *testing.T, words []int64) {
	t.Helper()
	r := impl.UnpackInode(words)
	if r.Code == impl.OK && len(words) > 0 {
		wantCode(t, "InodeFault of what is read", impl.InodeFault(r.Inode), impl.OK)
		wantWords(t, "PackInode of what is read", impl.PackInode(r.Inode), words)
		return
	}
	want := int64(impl.OK)
	switch {
	case len(words) > impl.MaxWords:
		want = impl.ErrMany
	case anyOutside(words):
		want = impl.ErrRange
	case len(words) > 0:
		want = impl.ErrText
	}
	wantNoInode(t, keyOf(words), r, want)
}

func TestWordsOneTooFewAndTooMany(t *testing.T) {
	for _, c := range soundInodes() {
		for n := range len(c.words) {
			r := impl.UnpackInode(c.words[:n])
			checkWords(t, c.words[:n])
			if n > 0 {
				wantNoInode(t, c.what+", fewer words", r, impl.ErrText)
			}
		}
		for _, word := range list(0, 1, 2, 19, 97, 65535) {
			more := append(copyOfWords(c.words), word)
			wantNoInode(t, c.what+", one word more", impl.UnpackInode(more), impl.ErrText)
		}
		for n := 2; len(c.words)+n <= impl.MaxWords; n++ {
			more := append(copyOfWords(c.words), fill(n, 0)...)
			wantNoInode(t, c.what+", words of 0 behind", impl.UnpackInode(more), impl.ErrText)
		}
	}
}

func copyOfWords(words []int64) []int64 {
	return append([]int64(nil), words...)
}

// One word is turned: what is read then, if anything is, is another inode.
func TestWordsTurned(t *testing.T) {
	turns := list(-1, 0, 1, 2, 3, 4, 5, 6, 7, 8, 9, 10, 16, 19, 20, 24, 25, 32, 33, 60, 61, 96, 97, 98, 122, 123, 255, 256, 353, 65535, 65536)
	read := 0
	for _, c := range soundInodes() {
		for i, was := range c.words {
			for _, word := range turns {
				words := copyOfWords(c.words)
				words[i] = word
				checkWords(t, words)
				r := impl.UnpackInode(words)
				if word == was || r.Code != impl.OK {
					continue
				}
				read++
				wantSame(t, c.what, r.Inode, c.inode, false)
			}
		}
	}
	if read == 0 {
		t.Error("no words that were turned are read")
	}
}

// One word is left out, or stands twice.
func TestWordsGoneAndTwice(t *testing.T) {
	for _, c := range soundInodes() {
		for i := range c.words {
			gone := append(copyOfWords(c.words[:i]), c.words[i+1:]...)
			checkWords(t, gone)
			twice := append(copyOfWords(c.words[:i+1]), c.words[i:]...)
			checkWords(t, twice)
		}
	}
}

// Inodes made by dice, with a fault or without: what has none is read back.
func TestInodesByDice(t *testing.T) {
	d := dice(11)
	sound := 0
	for range 20000 {
		x := diceInode(&d)
		if impl.InodeFault(x) != impl.OK {
			wantCode(t, "PackInode", impl.PackInode(x).Code, impl.InodeFault(x))
			checkWords(t, modelWords(x))
			continue
		}
		sound++
		wantWords(t, "PackInode", impl.PackInode(x), modelWords(x))
		wantInode(t, "UnpackInode", impl.UnpackInode(modelWords(x)), x)
	}
	if sound < 1000 {
		t.Errorf("only %d inodes of 20000 are sound", sound)
	}
}

func diceInode(d *dice) impl.Inode {
	x := impl.Inode{Kind: d.below(3)}
	if x.Kind == impl.KindFile {
		x.Links, x.Size = d.below(62), d.below(34)
		for range (x.Size + 7) / 8 {
			x.Blocks = append(x.Blocks, d.below(20))
		}
	}
	if x.Kind == impl.KindDir {
		name := byte('a')
		for range d.below(8) {
			name += byte(d.below(3))
			x.Entries = append(x.Entries, entry(string(name)+strings.Repeat("b", int(d.below(4))), d.below(10)))
		}
	}
	return x
}
