package tests

import (
	"strings"
	"testing"

	"loop.example/g00295/impl"
)

// memoryTexts are paths, names, and texts that are neither, each in memory of
// its own.
func memoryTexts() []string {
	var texts []string
	for path, list := range soundPaths() {
		texts = append(append(texts, path), list...)
	}
	for _, c := range append(append(pathCases(), pathsOfSeveral()...), nameCases()...) {
		texts = append(texts, c.text)
	}
	for i, text := range texts {
		texts[i] = strings.Clone(text)
	}
	return append(texts, strings.Repeat("/", 100000), strings.Repeat("a", 100000))
}

func TestPathPromiseOne(t *testing.T) {
	tops := []string{"/", "/a", "/a/b", "/abcd/efgh", "", "a", "/a/", "/A"}
	for _, text := range memoryTexts() {
		checkCall(t, "NameFault", impl.NameFault, text)
		checkCall(t, "SplitPath", impl.SplitPath, text)
		checkCall(t, "ParentOf", impl.ParentOf, text)
		checkCall(t, "LastOf", impl.LastOf, text)
		checkCall(t, "JoinPath", impl.JoinPath, names(text))
		for _, top := range tops {
			checkCall(t, "IsBelow", impl.IsBelow, text, top)
			checkCall(t, "IsBelow", impl.IsBelow, top, text)
		}
	}
}

// memoryNames are lists of names with room behind their ends, empty ones and
// ones that cannot be joined.
func memoryNames() [][]string {
	room := make([]string, 9)
	for i := range room {
		room[i] = strings.Repeat(string(rune('a'+i)), 1+i%4)
	}
	return [][]string{nil, {}, room[:0], room[:0:0], room[:1], room[:2], room[3:5], room[:6], room[:6:6], room[3:], room[:7], room, names(""), names("a", ""), names("a", "B"), names("abcde"), names("a/b"), make([]string, 7), make([]string, 1000)}
}

func TestNamesPromiseOne(t *testing.T) {
	for _, list := range memoryNames() {
		checkCall(t, "JoinPath", impl.JoinPath, list)
	}
	room := names("a", "b", "c")
	wantText(t, "names with others behind them", impl.JoinPath(room[:1]), "/a")
	wantText(t, "no names with others behind them", impl.JoinPath(room[:0]), "/")
	if !same(room, names("a", "b", "c")) {
		t.Errorf("the argument is %q", room)
	}
}

// What is done with the names of one answer is not seen in the next one.
func TestNamesByTurns(t *testing.T) {
	path := "/a/hall"
	first := impl.SplitPath(path).Names
	first[0] = "x"
	_ = append(first[:1], "y")
	wantNames(t, "SplitPath again", impl.SplitPath(path), names("a", "hall"))
	wantText(t, "LastOf", impl.LastOf(path), "hall")
	wantText(t, "ParentOf", impl.ParentOf(path), "/a")
}
