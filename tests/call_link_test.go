package tests

import (
	"fmt"
	"slices"
	"testing"

	"loop.example/g00295/impl"
)

// checkLink holds a link against the model, by DoCall and by LinkPath.
func checkLink(t *testing.T, what string, f impl.Fs, path, to string) impl.CallResult {
	t.Helper()
	r := checkAct(t, what, f, link(path, to), nil)
	if direct := impl.LinkPath(f, path, to); !same(direct, r) {
		t.Errorf("%s: LinkPath %s to %s: %v, not %v", what, path, to, direct, r)
	}
	return r
}

// wantFileText reads a file by a path.
func wantFileText(t *testing.T, what string, f impl.Fs, path, text string) {
	t.Helper()
	wantTold(t, what, f, read(path, 0, 100), impl.CallResult{Value: int64(len(text)), Bytes: []byte(text)})
}

// A file that has several names is one: what is done by one of them is seen by
// all, and it is there as long as it has one.
func TestFileOfManyNamesIsOne(t *testing.T) {
	f := tree(dir(entry("a", 1), entry("b", 2), entry("d", 3)), file(1, 9, 3, 4), file(1, 2, 0), dir(entry("e", 4)), dir())
	all := names("/a")
	for i, to := range names("/c", "/d/a", "/d/e/x", "/aa", "/d/e/a") {
		r := checkLink(t, "one more", f, all[i/2], to)
		wantCode(t, to, r.Reply, impl.OK)
		f, all = r.Fs, append(all, to)
		wantTold(t, "one more", f, call(impl.CallStat, to), impl.CallResult{Value: 1000 + 100*int64(len(all)) + 9})
		for _, path := range all {
			wantNumber(t, path, impl.WalkPath(f, path), 1)
		}
	}
	for i, by := range all {
		text := fmt.Sprint("written by ", i)
		g := wantDone(t, by, f, write(by, 0, text), list(7), impl.CallResult{Value: int64(len(text))})
		for _, path := range all {
			wantFileText(t, "written by "+by, g, path, text)
		}
		wantFileText(t, "the other file", g, "/b", string(textOf(2, 2)))
		g = wantDone(t, by, f, cut(by, 3), nil, impl.CallResult{Value: 3})
		for _, path := range all {
			wantFileText(t, "cut by "+by, g, path, string(textOf(1, 3)))
		}
	}
	for _, gone := range orders(all[:4]) {
		g := f
		for n, path := range append(slices.Clone(gone), all[4:]...) {
			wantFileText(t, "ahead of it", g, path, string(textOf(1, 9)))
			g = wantDone(t, "a name goes", g, call(impl.CallUnlink, path), nil, impl.CallResult{})
			wantReply(t, "a name is gone", g, call(impl.CallStat, path), nil, impl.ErrNone)
			if left := int64(len(all) - n - 1); left > 0 && g.Inodes[1].Links != left || left == 0 && !same(g.Inodes[1], kind(0)) {
				t.Fatalf("%v: %d names are left of %v", gone, left, g.Inodes[1])
			}
		}
		if len(g.Data[3])+len(g.Data[4]) != 0 {
			t.Errorf("%v: the last name is gone, and %v has its bytes", gone, g.Data)
		}
		wantFileText(t, "the other file", g, "/b", string(textOf(2, 2)))
	}
}

// Each file by each of its names, to each directory, in trees by hand.
func TestLinksInTrees(t *testing.T) {
	for _, c := range fileTrees() {
		paths := modelPaths(c.fs)
		for _, path := range paths {
			for _, to := range append(names("/q", "/q/q", "/", "/Q"), paths...) {
				checkLink(t, c.what, c.fs, path, to)
				r := checkLink(t, c.what, c.fs, path, to+"/q")
				if r.Reply != impl.OK {
					continue
				}
				back := impl.DoCall(r.Fs, call(impl.CallUnlink, to+"/q"), nil)
				if !same(back.Fs, c.fs) {
					t.Errorf("%s: %s linked to %s and unlinked: %v, not %v", c.what, path, to+"/q", back.Fs, c.fs)
				}
			}
		}
		if t.Failed() {
			t.FailNow()
		}
	}
}

func TestLinksThatAreNone(t *testing.T) {
	f := renameTree()
	for _, c := range []struct {
		what, path, to string
		reply          int64
	}{
		{"a directory", "/a", "/b/z", impl.ErrDir},
		{"an empty directory", "/b", "/a/z", impl.ErrDir},
		{"the top", "/", "/b/z", impl.ErrDir},
		{"a directory, to itself", "/a", "/a", impl.ErrDir},
		{"a directory, to a path that is none", "/a", "/Z", impl.ErrDir},
		{"a directory, to what is there", "/a", "/h", impl.ErrDir},
		{"to itself", "/h", "/h", impl.ErrTaken},
		{"to another name of its own", "/f", "/g", impl.ErrTaken},
		{"to another file", "/h", "/a/x", impl.ErrTaken},
		{"to an empty directory", "/h", "/b", impl.ErrTaken},
		{"to a directory with entries", "/h", "/a", impl.ErrTaken},
		{"to what is there in one of MaxEntries", "/a/x", "/h", impl.ErrTaken},
		{"into one of MaxEntries", "/a/x", "/z", impl.ErrMany},
		{"into one of MaxEntries, its own", "/h", "/z", impl.ErrMany},
		{"to the top", "/h", "/", impl.ErrNone},
		{"into a directory that is not there", "/h", "/q/z", impl.ErrNone},
		{"into a file", "/h", "/f/z", impl.ErrDir},
		{"into itself", "/h", "/h/z", impl.ErrDir},
		{"to no path", "/h", "", impl.ErrText},
		{"to a path that is none", "/h", "/b/z/", impl.ErrText},
		{"to a name too long", "/h", "/b/abcde", impl.ErrMany},
		{"what is not there", "/q", "/b/z", impl.ErrNone},
		{"what is not there, to itself", "/q", "/q", impl.ErrNone},
		{"what is not there, to no path", "/q", "", impl.ErrNone},
		{"of a directory that is not there", "/q/x", "/b/z", impl.ErrNone},
		{"behind a file", "/h/x", "/b/z", impl.ErrDir},
		{"no path", "", "/b/z", impl.ErrText},
		{"a path too long", full6() + "y", "/b/z", impl.ErrMany},
	} {
		r := checkLink(t, c.what, f, c.path, c.to)
		if !same(r, impl.CallResult{Reply: c.reply, Fs: f}) {
			t.Errorf("%s: %s to %s: %v, not reply %d alone", c.what, c.path, c.to, r, c.reply)
		}
	}
}

// A file has 46 names at most: then each directory has MaxEntries. One of 60
// Links has more than there are names, so that the file system is not whole.
func TestAsManyLinksAsCanBe(t *testing.T) {
	most := mostPaths()
	for _, path := range most.paths {
		if impl.WalkPath(most.fs, path).Value != 9 {
			wantReply(t, "as many as can be", most.fs, link("/e", path+"/q"), nil, impl.ErrMany)
			continue
		}
		other := "/e"
		if path == other {
			other = "/f"
		}
		f := wantDone(t, "one less", most.fs, call(impl.CallUnlink, path), nil, impl.CallResult{})
		wantTold(t, "one less", f, call(impl.CallStat, other), impl.CallResult{Value: 1000 + 4500 + 17})
		f = wantDone(t, "one more", f, link(other, path), nil, impl.CallResult{})
		if !same(f, most.fs) {
			t.Errorf("%s unlinked and linked again: %v", path, f)
		}
	}
	wantReply(t, "as many as can be", most.fs, link("/e", "/q"), nil, impl.ErrMany)
	for _, links := range list(59, 60) {
		f := tree(dir(entry("a", 1), entry("b", 2)), file(links, 9, 3, 4), dir())
		if r := impl.LinkPath(f, "/a", "/b/z"); !same(r, impl.CallResult{Code: impl.ErrForm}) {
			t.Errorf("%d Links of one name: %v", links, r)
		}
		wantCode(t, "AddName", impl.AddName(f, 2, "z", 1).Code, codeIf(links == 60, impl.ErrMany))
	}
}
