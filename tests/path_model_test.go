package tests

import (
	"strings"
	"testing"

	"loop.example/g00295/impl"
)

// modelSplit is chapter 3 told another way: by cutting at each /.
func modelSplit(path string) ([]string, int64) {
	if len(path) > 30 {
		return nil, impl.ErrMany
	}
	if path == "/" {
		return nil, impl.OK
	}
	if path == "" || path[0] != '/' || path[len(path)-1] == '/' {
		return nil, impl.ErrText
	}
	parts := strings.Split(path, "/")[1:]
	if len(parts) > 6 {
		return nil, impl.ErrMany
	}
	for _, part := range parts {
		if strings.Trim(part, "abcdefghijklmnopqrstuvwxyz") != "" || part == "" {
			return nil, impl.ErrText
		}
		if len(part) > 4 {
			return nil, impl.ErrMany
		}
	}
	return parts, impl.OK
}

func checkPath(t *testing.T, path string) {
	t.Helper()
	want, code := modelSplit(path)
	split := impl.SplitPath(path)
	if !same(split, impl.NamesResult{Code: code, Names: want}) {
		t.Fatalf("SplitPath of %q: %v, not %q, %d", path, split, want, code)
	}
	parent, last := impl.ParentOf(path), impl.LastOf(path)
	if code == impl.OK && len(want) == 0 {
		code = impl.ErrNone
	}
	if code != impl.OK {
		wantNoText(t, "ParentOf", parent, code)
		wantNoText(t, "LastOf", last, code)
		return
	}
	wantText(t, "JoinPath", impl.JoinPath(want), path)
	wantText(t, "LastOf", last, want[len(want)-1])
	wantText(t, "ParentOf", parent, "/"+strings.Join(want[:len(want)-1], "/"))
	wantBelow(t, path, parent.Text, true)
	wantBelow(t, path, "/", true)
	wantBelow(t, path, path, false)
	wantBelow(t, parent.Text, path, false)
}

// All short texts of a few bytes, paths or not.
func TestAllShortTexts(t *testing.T) {
	texts := []string{""}
	for from := 0; from < len(texts); from++ {
		checkPath(t, texts[from])
		if len(texts[from]) < 7 {
			for _, b := range "/azB" {
				texts = append(texts, texts[from]+string(b))
			}
		}
	}
}

// Long texts that are nearly paths, so that each bound is met.
func TestTextsNearTheBounds(t *testing.T) {
	d := dice(3)
	pieces := []string{"a", "b", "ab", "abcd", "wxyz", "abcde", "", "A", "a1"}
	for range 20000 {
		var path strings.Builder
		for range 1 + d.below(8) {
			path.WriteByte('/')
			few := int64(len(pieces))
			if d.below(3) > 0 {
				few = 5
			}
			path.WriteString(pieces[d.below(few)])
		}
		checkPath(t, path.String())
	}
}

// Of two texts the one is below the other just where the model says so.
func TestBelowOfShortTexts(t *testing.T) {
	texts := []string{"", "/"}
	for _, a := range []string{"/a", "/ab", "/b", "/", "a", "/A", "/abcde"} {
		texts = append(texts, a)
		for _, b := range []string{"/a", "/ab", "/b", "/", "a", "/A"} {
			texts = append(texts, a+b)
			for _, c := range []string{"/a", "/b", "/"} {
				texts = append(texts, a+b+c)
			}
		}
	}
	for _, path := range texts {
		for _, top := range texts {
			below, code := modelSplit(path)
			above, topCode := modelSplit(top)
			want := code == impl.OK && topCode == impl.OK && len(below) > len(above)
			want = want && strings.Join(below[:len(above)], " ") == strings.Join(above, " ")
			wantBelow(t, path, top, want)
		}
	}
}
