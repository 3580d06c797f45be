package tests

import (
	"fmt"
	"strings"
	"testing"

	"loop.example/g00295/impl"
)

// withText is a file of these bytes with so many links, at most eleven: names
// in the top up to five, and then in its directory "z".
func withText(text []byte, links int64) impl.Fs {
	top, below := dir(), dir()
	for i, e := range sixEntries() {
		if int64(i) < min(links, 5) {
			top.Entries = append(top.Entries, entry(e.Name, 2))
		}
		if int64(i) < links-5 {
			below.Entries = append(below.Entries, entry(e.Name, 2))
		}
	}
	top.Entries = append(top.Entries, entry("z", 1))
	size := int64(len(text))
	x := file(links, size, list(12, 3, 19, 0)[:(size+7)/8]...)
	f := tree(top, below, x)
	for number, block := range x.Blocks {
		f.Data[block] = piece(text, number)
	}
	return f
}

func TestTextByHand(t *testing.T) {
	for what, c := range map[string]struct {
		fs   impl.Fs
		text string
	}{
		"the top alone":       {tree(dir()), ""},
		"free ones":           {tree(append(inodes(dir()), alike(9, kind(0))...)...), ""},
		"an empty directory":  {tree(dir(entry("a", 1)), dir()), "/a dir 1\n"},
		"a file of no bytes":  {tree(dir(entry("a", 1)), file(1, 0)), "/a file 1 0 -\n"},
		"a file of one byte":  {tree(dir(entry("abcd", 1)), file(1, 1, 7)), "/abcd file 1 1 f\n"},
		"a file of nine":      {tree(dir(entry("a", 1)), file(1, 9, 7, 2)), "/a file 1 9 fghijklmn\n"},
		"a file of ten":       {tree(dir(entry("a", 1)), file(1, 10, 7, 2)), "/a file 1 10 fghijklmno\n"},
		"a file of 32":        {tree(dir(entry("a", 1)), file(1, 32, 7, 2, 19, 0)), "/a file 1 32 fghijklmnopqrstuvwxyzabcdefghijk\n"},
		"a directory, a file": {tree(dir(entry("a", 1), entry("b", 2)), dir(), file(1, 0)), "/a dir 1\n/b file 1 0 -\n"},
		"two names":           {tree(dir(entry("a", 1), entry("b", 1)), file(2, 2, 0)), "/a file 2 2 fg\n/b file 2 2 fg\n"},
		"below":               {tree(dir(entry("a", 1), entry("c", 2)), dir(entry("b", 2)), file(2, 3, 0)), "/a dir 1\n/a/b file 2 3 klm\n/c file 2 3 klm\n"},
		"a directory of many": {tree(dir(entry("a", 1)), dir(entry("a", 2), entry("b", 2), entry("c", 3)), file(2, 0), dir()), "/a dir 1\n/a/a file 2 0 -\n/a/b file 2 0 -\n/a/c dir 1\n"},
		"as deep as can be":   {ladder("a", file(1, 9, 3, 4)), "/a dir 1\n/a/a dir 1\n/a/a/a dir 1\n/a/a/a/a dir 1\n/a/a/a/a/a dir 1\n/a/a/a/a/a/a dir 1\n"},
		"names that are long": {tree(dir(entry("abcd", 1)), dir(entry("file", 2)), file(1, 4, 0)), "/abcd dir 1\n/abcd/file file 1 4 klmn\n"},
		"names that are kinds": {tree(dir(entry("dir", 1), entry("file", 2)), file(1, 0), dir()),
			"/dir file 1 0 -\n/file dir 1\n"},
	} {
		wantText(t, what, impl.TreeText(c.fs), c.text)
	}
}

// Of bytes those from a to z are told as they are, and no others.
func TestTextOfEachByte(t *testing.T) {
	for n := range 256 {
		want := "."
		if strings.Contains("abcdefghijklmnopqrstuvwxyz", string(rune(n))) {
			want = string(rune(n))
		}
		for _, text := range []string{"?", "ab?", "?yz", "?????????", "mnopqrs?tuvwxyz?"} {
			raw := strings.ReplaceAll(text, "?", string([]byte{byte(n)}))
			told := strings.ReplaceAll(text, "?", want)
			line := fmt.Sprintf("/a file 1 %d %s\n/z dir 1\n", len(text), told)
			wantText(t, fmt.Sprintf("byte %d in %q", n, text), impl.TreeText(withText([]byte(raw), 1)), line)
		}
	}
	wantText(t, "the neighbours", impl.TreeText(withText([]byte("A{`\x00\xff-. \n/az"), 1)), "/a file 1 12 ..........az\n/z dir 1\n")
	wantText(t, "runes of several bytes", impl.TreeText(withText([]byte("aé€z"), 1)), "/a file 1 7 a.....z\n/z dir 1\n")
	wantText(t, "a - alone", impl.TreeText(withText([]byte("-"), 1)), "/a file 1 1 .\n/z dir 1\n")
	wantText(t, "bytes 0 alone", impl.TreeText(withText(make([]byte, 32), 1)), "/a file 1 32 "+strings.Repeat(".", 32)+"\n/z dir 1\n")
}

// Lengths and Links of one digit and of two.
func TestTextOfEachNumber(t *testing.T) {
	for size := range 33 {
		text := strings.Repeat("q", size)
		told := text
		if size == 0 {
			told = "-"
		}
		for links := int64(1); links < 12; links++ {
			want := ""
			for i := range min(links, 5) {
				want += fmt.Sprintf("/%c file %d %d %s\n", 'a'+rune(i), links, size, told)
			}
			want += "/z dir 1\n"
			for i := range max(links-5, 0) {
				want += fmt.Sprintf("/z/%c file %d %d %s\n", 'a'+rune(i), links, size, told)
			}
			wantText(t, fmt.Sprint(size, " bytes, ", links, " links"), impl.TreeText(withText([]byte(text), links)), want)
		}
	}
	most := impl.TreeText(mostPaths().fs)
	wantCode(t, "46 links", most.Code, impl.OK)
	if n := strings.Count(most.Text, " file 46 17 tuvwxyzabcdefghij\n"); n != 46 {
		t.Errorf("46 links: %d lines so in %q", n, most.Text)
	}
	if n := strings.Count(most.Text, " dir 1\n"); n != 8 || strings.Count(most.Text, "\n") != 54 {
		t.Errorf("46 links: %d directories in %q", n, most.Text)
	}
}

// The text hangs on the items alone, line by line.
func TestTextLineByLine(t *testing.T) {
	for _, c := range itemTrees() {
		wantText(t, c.what, impl.TreeText(c.fs), modelLines(c.items))
	}
}
