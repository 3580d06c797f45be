package tests

import (
	"strings"
	"testing"

	"loop.example/g00295/impl"
)

// The names, constants and signatures of chapter 3, as the document has them.
var (
	_ func(string) int64             = impl.NameFault
	_ func(string) impl.NamesResult  = impl.SplitPath
	_ func([]string) impl.TextResult = impl.JoinPath
	_ func(string) impl.TextResult   = impl.ParentOf
	_ func(string) impl.TextResult   = impl.LastOf
	_ func(string, string) bool      = impl.IsBelow
	_                                = impl.NamesResult{Code: int64(0), Names: []string(nil)}
	_                                = [1]int{}[impl.MaxName-4]
	_                                = [1]int{}[impl.MaxDepth-6]
	_                                = [1]int{}[impl.MaxPath-30]
)

func names(list ...string) []string {
	return list
}

// soundPaths are paths by their names, the bounds among them.
func soundPaths() map[string][]string {
	return map[string][]string{
		"/":                              nil,
		"/a":                             names("a"),
		"/z":                             names("z"),
		"/ab":                            names("ab"),
		"/abc":                           names("abc"),
		"/abcd":                          names("abcd"),
		"/azaz":                          names("azaz"),
		"/a/b":                           names("a", "b"),
		"/a/a":                           names("a", "a"),
		"/b/a":                           names("b", "a"),
		"/a/hall":                        names("a", "hall"),
		"/hall/a":                        names("hall", "a"),
		"/ab/a":                          names("ab", "a"),
		"/a/ab":                          names("a", "ab"),
		"/a/b/c":                         names("a", "b", "c"),
		"/a/b/c/d/e":                     names("a", "b", "c", "d", "e"),
		"/a/b/c/d/e/f":                   names("a", "b", "c", "d", "e", "f"),
		"/a/a/a/a/a/a":                   names("a", "a", "a", "a", "a", "a"),
		"/abcd/efgh/ijkl/mnop/qrst":      names("abcd", "efgh", "ijkl", "mnop", "qrst"),
		"/abcd/efgh/ijkl/mnop/qrst/uvw":  names("abcd", "efgh", "ijkl", "mnop", "qrst", "uvw"),
		"/abcd/efgh/ijkl/mnop/qrst/uvwx": names("abcd", "efgh", "ijkl", "mnop", "qrst", "uvwx"),
	}
}

func wantNames(t *testing.T, what string, r impl.NamesResult, want []string) {
	t.Helper()
	if !same(r, impl.NamesResult{Names: want}) {
		t.Errorf("%s: %v, not %q", what, r, want)
	}
}

func wantNoNames(t *testing.T, what string, r impl.NamesResult, code int64) {
	t.Helper()
	if !same(r, impl.NamesResult{Code: code}) {
		t.Errorf("%s: %v, not code %d alone", what, r, code)
	}
}

func wantText(t *testing.T, what string, r impl.TextResult, want string) {
	t.Helper()
	if r != (impl.TextResult{Text: want}) {
		t.Errorf("%s: %v, not %q", what, r, want)
	}
}

func wantNoText(t *testing.T, what string, r impl.TextResult, code int64) {
	t.Helper()
	if r != (impl.TextResult{Code: code}) {
		t.Errorf("%s: %v, not code %d alone", what, r, code)
	}
}

func wantBelow(t *testing.T, path, top string, want bool) {
	t.Helper()
	if impl.IsBelow(path, top) != want {
		t.Errorf("IsBelow(%q, %q) is not %v", path, top, want)
	}
}

func TestSplitAndJoin(t *testing.T) {
	for path, list := range soundPaths() {
		split := impl.SplitPath(path)
		wantNames(t, "SplitPath of "+path, split, list)
		wantText(t, "JoinPath of the names of "+path, impl.JoinPath(split.Names), path)
		joined := impl.JoinPath(list)
		wantText(t, "JoinPath", joined, path)
		wantNames(t, "SplitPath of what is joined", impl.SplitPath(joined.Text), list)
	}
}

func TestParentAndLast(t *testing.T) {
	for path, list := range soundPaths() {
		if len(list) == 0 {
			continue
		}
		last := len(list) - 1
		parent := "/" + strings.Join(list[:last], "/")
		wantText(t, "ParentOf "+path, impl.ParentOf(path), parent)
		wantText(t, "LastOf "+path, impl.LastOf(path), list[last])
		wantBelow(t, path, impl.ParentOf(path).Text, true)
		wantBelow(t, impl.ParentOf(path).Text, path, false)
		above := impl.SplitPath(impl.ParentOf(path).Text).Names
		wantText(t, "the parent joined with the last", impl.JoinPath(append(above, impl.LastOf(path).Text)), path)
	}
	wantText(t, "ParentOf /a/hall", impl.ParentOf("/a/hall"), "/a")
	wantText(t, "ParentOf /a", impl.ParentOf("/a"), "/")
	wantText(t, "LastOf /a/hall", impl.LastOf("/a/hall"), "hall")
}

// Parent by parent each path comes to the top, and is below all that it meets.
func TestUpToTheTop(t *testing.T) {
	for path, list := range soundPaths() {
		steps := 0
		for up := path; up != "/"; steps++ {
			up = impl.ParentOf(up).Text
			wantBelow(t, path, up, true)
			wantBelow(t, up, path, false)
		}
		if steps != len(list) {
			t.Errorf("%s: %d steps up to the top, not %d", path, steps, len(list))
		}
	}
}

func TestTheTop(t *testing.T) {
	wantNames(t, "SplitPath", impl.SplitPath("/"), nil)
	wantText(t, "JoinPath of nil", impl.JoinPath(nil), "/")
	wantText(t, "JoinPath of no names", impl.JoinPath(names()), "/")
	wantNoText(t, "ParentOf", impl.ParentOf("/"), impl.ErrNone)
	wantNoText(t, "LastOf", impl.LastOf("/"), impl.ErrNone)
	for path, list := range soundPaths() {
		wantBelow(t, "/", path, false)
		wantBelow(t, path, "/", len(list) > 0)
	}
}

// Of any two paths the one is below the other where its names begin with all
// of the other's, and go on.
func TestBelow(t *testing.T) {
	for path, below := range soundPaths() {
		wantBelow(t, path, path, false)
		for top, above := range soundPaths() {
			want := len(below) > len(above)
			for i := range above {
				want = want && below[i] == above[i]
			}
			wantBelow(t, path, top, want)
		}
	}
}

func TestBeginningsAreNotBelow(t *testing.T) {
	for _, pair := range [][2]string{{"/a", "/ab"}, {"/abc", "/abcd"}, {"/a/b", "/a/bc"}, {"/a/b", "/ab/b"}, {"/a/b", "/ab"}, {"/ab/c", "/a"}, {"/a/bc/d", "/a/b"}, {"/b", "/a"}, {"/b/a", "/a"}, {"/a/b/c", "/b"}, {"/a/b", "/b/a"}} {
		wantBelow(t, pair[0], pair[1], false)
		wantBelow(t, pair[1], pair[0], false)
	}
	wantBelow(t, "/a/b", "/a", true)
	wantBelow(t, "/a/b/c", "/a", true)
	wantBelow(t, "/a/b/c", "/a/b", true)
	wantBelow(t, "/a/a", "/a", true)
	wantBelow(t, "/a/b/c/d/e/f", "/a/b/c/d/e", true)
	wantBelow(t, "/a/b/c/d/e/f", "/a/b/c/d/f", false)
}
