package tests

import (
	"fmt"
	"maps"
	"slices"
	"strings"
	"testing"

	"loop.example/g00295/impl"
)

// below tells all that is below a place, however deep: by its way from there
// the place, and of a file its bytes. The place itself has no text.
func below(f impl.Fs, at int64) map[string]string {
	all := map[string]string{"": fmt.Sprint(at)}
	if f.Inodes[at].Kind == impl.KindFile {
		all[""] += fmt.Sprintf(" %q", modelText(f, at))
	}
	for _, e := range f.Inodes[at].Entries {
		for way, what := range below(f, e.Inode) {
			all["/"+e.Name+way] = what
		}
	}
	return all
}

// hasTop tells whether a path is another one, or is below it.
func hasTop(path, top string) bool {
	return path == top || strings.HasPrefix(path, top+"/")
}

// checkRenamed asks for what promise 11 says of a rename that is done, of two
// paths that do not lead to the same.
func checkRenamed(t *testing.T, what string, f impl.Fs, path, to string, after impl.Fs) {
	t.Helper()
	what = fmt.Sprint(what, ": ", path, " to ", to)
	at := impl.WalkPath(f, path).Value
	wantNumber(t, what+": where it leads", impl.WalkPath(after, to), at)
	wantCode(t, what+": the old name", impl.LookName(after, modelWays(f)[strings.TrimSuffix(impl.ParentOf(path).Text, "/")], lastName(path)).Code, impl.ErrNone)
	wantCode(t, what+": the old path", impl.WalkPath(after, path).Code, impl.ErrNone)
	if !maps.Equal(below(f, at), below(after, at)) {
		t.Errorf("%s: it was %v, and is %v", what, below(f, at), below(after, at))
	}
	before, now := below(f, 0), below(after, 0)
	for way, stood := range before {
		if !hasTop(way, path) && !hasTop(way, to) && now[way] != stood {
			t.Errorf("%s: at %s stood %s, and stands %s", what, way, stood, now[way])
		}
	}
	for way := range now {
		if _, stood := before[way]; !stood && !hasTop(way, to) {
			t.Errorf("%s: there is %s", what, way)
		}
	}
}

// checkRename holds a rename against the model, by DoCall and by RenamePath,
// and asks for what it promises.
func checkRename(t *testing.T, what string, f impl.Fs, path, to string) impl.CallResult {
	t.Helper()
	r := checkAct(t, what, f, rename(path, to), nil)
	if direct := impl.RenamePath(f, path, to); !same(direct, r) {
		t.Errorf("%s: RenamePath %s to %s: %v, not %v", what, path, to, direct, r)
	}
	if r.Reply != impl.OK {
		return r
	}
	was, stood := impl.WalkPath(f, path).Value, impl.WalkPath(f, to)
	if stood.Code == impl.OK && stood.Value == was {
		if !same(r.Fs, f) {
			t.Errorf("%s: %s to %s is the same, and turned %v into %v", what, path, to, f, r.Fs)
		}
		return r
	}
	checkRenamed(t, what, f, path, to, r.Fs)
	return r
}

// renameTree has MaxEntries in the top, a file of three names, and directories
// three below each other.
func renameTree() impl.Fs {
	return tree(
		dir(entry("a", 1), entry("b", 2), entry("c", 3), entry("f", 4), entry("g", 4), entry("h", 5)),
		dir(entry("b", 6), entry("x", 7)),
		dir(),
		dir(entry("f", 4)),
		file(3, 9, 3, 4),
		file(1, 17, 0, 7, 5),
		dir(entry("c", 8)),
		file(1, 3, 9),
		dir(entry("d", 9)),
		dir(),
	)
}

// A rename that comes to nothing, or changes nothing, and why.
func TestRenamesThatChangeNothing(t *testing.T) {
	f := renameTree()
	wantCode(t, "the tree", impl.FsFault(f), impl.OK)
	for _, c := range []struct {
		what, path, to string
		reply          int64
	}{
		{"a file to itself", "/h", "/h", impl.OK},
		{"a file of three names to itself", "/c/f", "/c/f", impl.OK},
		{"a directory to itself", "/a", "/a", impl.OK},
		{"an empty directory to itself", "/b", "/b", impl.OK},
		{"a directory far below to itself", "/a/b/c/d", "/a/b/c/d", impl.OK},
		{"one name to another of the same file", "/f", "/g", impl.OK},
		{"and back", "/g", "/f", impl.OK},
		{"to one in another directory", "/f", "/c/f", impl.OK},
		{"from one in another directory", "/c/f", "/g", impl.OK},

		{"into a directory of MaxEntries: a file", "/a/x", "/z", impl.ErrMany},
		{"into a directory of MaxEntries: a name of three", "/c/f", "/z", impl.ErrMany},
		{"into a directory of MaxEntries: a directory", "/a/b", "/z", impl.ErrMany},
		{"into a directory of MaxEntries: from far below", "/a/b/c/d", "/aa", impl.ErrMany},

		{"a file onto an empty directory", "/h", "/b", impl.ErrDir},
		{"a file onto a directory with entries", "/h", "/a", impl.ErrDir},
		{"a file onto a directory in another", "/h", "/a/b", impl.ErrDir},
		{"a directory onto a file", "/a", "/h", impl.ErrDir},
		{"an empty directory onto a file", "/b", "/f", impl.ErrDir},
		{"a directory onto a file in another", "/b", "/a/x", impl.ErrDir},
		{"a directory onto a directory with entries", "/c", "/a", impl.ErrFull},
		{"an empty directory onto one with entries", "/b", "/a", impl.ErrFull},
		{"a directory onto one in another", "/b", "/a/b", impl.ErrFull},
		{"a directory onto one three below another", "/b", "/a/b/c", impl.ErrFull},

		{"a directory into itself", "/a", "/a/z", impl.ErrForm},
		{"an empty directory into itself", "/b", "/b/z", impl.ErrForm},
		{"into itself, onto a directory", "/a", "/a/b", impl.ErrForm},
		{"into itself, onto a file", "/a", "/a/x", impl.ErrForm},
		{"into what is one below it", "/a", "/a/b/z", impl.ErrForm},
		{"into what is two below it", "/a", "/a/b/c/z", impl.ErrForm},
		{"into what is two below it, onto an empty one", "/a", "/a/b/c/d", impl.ErrForm},
		{"into what is three below it", "/a", "/a/b/c/d/z", impl.ErrForm},
		{"from far below into itself", "/a/b", "/a/b/c/d/z", impl.ErrForm},
		{"the last one into itself", "/a/b/c/d", "/a/b/c/d/z", impl.ErrForm},

		{"a file onto its parent", "/a/x", "/a", impl.ErrDir},
		{"a name of three onto its parent", "/c/f", "/c", impl.ErrDir},
		{"a directory onto its parent", "/a/b", "/a", impl.ErrFull},
		{"a directory onto its parent's parent", "/a/b/c", "/a", impl.ErrFull},
		{"an empty directory onto its parent", "/a/b/c/d", "/a/b/c", impl.ErrFull},

		{"the top", "/", "/z", impl.ErrNone},
		{"the top to itself", "/", "/", impl.ErrNone},
		{"the top into a directory", "/", "/b/z", impl.ErrNone},
		{"a file to the top", "/h", "/", impl.ErrNone},
		{"a directory to the top", "/a", "/", impl.ErrNone},
		{"from far below to the top", "/a/b/c/d", "/", impl.ErrNone},

		{"what is not there", "/q", "/b/z", impl.ErrNone},
		{"what is not there, to itself", "/q", "/q", impl.ErrNone},
		{"what is not there, onto a file", "/a/q", "/h", impl.ErrNone},
		{"what is not there, onto a directory", "/a/q", "/b", impl.ErrNone},
		{"of a directory that is not there", "/q/x", "/b/z", impl.ErrNone},
		{"behind a file", "/h/x", "/b/z", impl.ErrDir},
		{"behind a file, far below", "/a/x/y/z", "/b/z", impl.ErrDir},
		{"into a directory that is not there", "/h", "/q/z", impl.ErrNone},
		{"into a directory that is not there, far below", "/a", "/a/q/z", impl.ErrNone},
		{"into a file", "/h", "/f/z", impl.ErrDir},
		{"a file into itself", "/h", "/h/z", impl.ErrDir},
		{"a directory into a file", "/a", "/a/x/z", impl.ErrDir},
		{"a path that is none", "h", "/b/z", impl.ErrText},
		{"no path", "", "/b/z", impl.ErrText},
		{"a path too long", full6() + "y", "/b/z", impl.ErrMany},
		{"to a path that is none", "/h", "/b/Z", impl.ErrText},
		{"to no path", "/h", "", impl.ErrText},
		{"to a path of too many names", "/h", "/a/b/c/d/e/f/g", impl.ErrMany},
		{"to a name too long", "/h", "/b/abcde", impl.ErrMany},
	} {
		r := checkRename(t, c.what, f, c.path, c.to)
		if !same(r, impl.CallResult{Reply: c.reply, Fs: f}) {
			t.Errorf("%s: %s to %s: %v, not reply %d alone", c.what, c.path, c.to, r, c.reply)
		}
	}
}

// A rename that is done: what is gone, what has come with the place that it
// leads to, and which place is free then.
func TestRenamesThatAreDone(t *testing.T) {
	f := renameTree()
	ways := modelWays(f)
	for _, c := range []struct {
		what, path, to string
		gone           []string
		come           map[string]int64
		free           []int64
	}{
		{"a file within a directory of MaxEntries", "/h", "/z", names("/h"), map[string]int64{"/z": 5}, nil},
		{"to be the first one", "/h", "/aa", names("/h"), map[string]int64{"/aa": 5}, nil},
		{"a directory within one of MaxEntries", "/b", "/bb", names("/b"), map[string]int64{"/bb": 2}, nil},
		{"a directory with all below it", "/a", "/z", names("/a", "/a/b", "/a/b/c", "/a/b/c/d", "/a/x"),
			map[string]int64{"/z": 1, "/z/b": 6, "/z/b/c": 8, "/z/b/c/d": 9, "/z/x": 7}, nil},
		{"one name of three", "/g", "/z", names("/g"), map[string]int64{"/z": 4}, nil},
		{"within another directory", "/a/x", "/a/a", names("/a/x"), map[string]int64{"/a/a": 7}, nil},
		{"into another directory", "/h", "/b/h", names("/h"), map[string]int64{"/b/h": 5}, nil},
		{"a name of three into another", "/f", "/b/z", names("/f"), map[string]int64{"/b/z": 4}, nil},
		{"beside another name of the same file", "/f", "/c/g", names("/f"), map[string]int64{"/c/g": 4}, nil},
		{"far below", "/h", "/a/b/c/d/h", names("/h"), map[string]int64{"/a/b/c/d/h": 5}, nil},
		{"a directory far below", "/c", "/a/b/c/d/c", names("/c", "/c/f"), map[string]int64{"/a/b/c/d/c": 3, "/a/b/c/d/c/f": 4}, nil},
		{"a directory up", "/a/b/c", "/b/z", names("/a/b/c", "/a/b/c/d"), map[string]int64{"/b/z": 8, "/b/z/d": 9}, nil},
		{"beside its parent", "/a/b/c/d", "/a/b/d", names("/a/b/c/d"), map[string]int64{"/a/b/d": 9}, nil},

		{"onto a file: its last name", "/a/x", "/h", names("/a/x"), map[string]int64{"/h": 7}, list(5)},
		{"onto a file beside it", "/f", "/h", names("/f"), map[string]int64{"/h": 4}, list(5)},
		{"onto a file in another directory", "/h", "/a/x", names("/h"), map[string]int64{"/a/x": 5}, list(7)},
		{"onto one name of three", "/h", "/f", names("/h"), map[string]int64{"/f": 5}, nil},
		{"onto one of three in another directory", "/h", "/c/f", names("/h"), map[string]int64{"/c/f": 5}, nil},
		{"onto a file in one of MaxEntries", "/a/x", "/g", names("/a/x"), map[string]int64{"/g": 7}, nil},
		{"onto an empty directory", "/c", "/b", names("/c", "/c/f"), map[string]int64{"/b": 3, "/b/f": 4}, list(2)},
		{"onto an empty one, with all below it", "/a", "/b", names("/a", "/a/b", "/a/b/c", "/a/b/c/d", "/a/x"),
			map[string]int64{"/b": 1, "/b/b": 6, "/b/b/c": 8, "/b/b/c/d": 9, "/b/x": 7}, list(2)},
		{"onto an empty one, from below", "/a/b/c/d", "/b", names("/a/b/c/d"), map[string]int64{"/b": 9}, list(2)},
		{"onto an empty one far below", "/b", "/a/b/c/d", names("/b"), map[string]int64{"/a/b/c/d": 2}, list(9)},
	} {
		r := checkRename(t, c.what, f, c.path, c.to)
		wantCode(t, c.what, r.Reply, impl.OK)
		want := maps.Clone(ways)
		for _, path := range c.gone {
			delete(want, path)
		}
		maps.Copy(want, c.come)
		if now := modelWays(r.Fs); !maps.Equal(now, want) {
			t.Errorf("%s: %s to %s: %v, not %v", c.what, c.path, c.to, now, want)
		}
		for at, x := range r.Fs.Inodes {
			if (x.Kind == impl.KindFree) != among(c.free, int64(at)) {
				t.Errorf("%s: %d is free, and should not be, or should be", c.what, at)
			}
		}
	}
	three := impl.RenamePath(f, "/h", "/f").Fs
	if three.Inodes[4].Links != 2 || three.Inodes[5].Links != 1 || !same(three.Data, f.Data) {
		t.Errorf("one name of three is gone: %v", three)
	}
	last := impl.RenamePath(f, "/f", "/h").Fs
	if last.Inodes[4].Links != 3 || len(last.Data[0])+len(last.Data[7])+len(last.Data[5]) != 0 {
		t.Errorf("a file is gone: %v", last)
	}
}

// A directory of MaxEntries: each of its names to each other one, and to one
// that it has not.
func TestRenamesWithinMaxEntries(t *testing.T) {
	f := tree(append(inodes(dir(entry("b", 1), entry("d", 2), entry("f", 3), entry("h", 4), entry("j", 5), entry("l", 5))), file(1, 9, 3, 4), dir(), file(1, 1, 0), dir(), file(2, 8, 7))...)
	all, files := names("b", "d", "f", "h", "j", "l"), names("b", "f", "j", "l")
	for _, name := range all {
		for _, to := range append(names("a", "bb", "c", "e", "g", "k", "z"), all...) {
			r := checkRename(t, "MaxEntries", f, "/"+name, "/"+to)
			if slices.Contains(all, to) {
				differ := slices.Contains(files, name) != slices.Contains(files, to)
				wantCode(t, name+" to "+to, r.Reply, codeIf(differ, impl.ErrDir))
				continue
			}
			wantCode(t, name+" to "+to, r.Reply, impl.OK)
			if len(r.Fs.Inodes[0].Entries) != 6 {
				t.Errorf("%s to %s: %v", name, to, r.Fs.Inodes[0])
			}
		}
	}
}

// All pairs of paths in trees by hand: those that are there, that could be, and
// that cannot.
func TestRenamesAtAllPairs(t *testing.T) {
	for _, c := range walkTrees() {
		paths := c.paths
		if len(paths) > 20 {
			paths = append(paths[:8:8], paths[len(paths)-8:]...)
		}
		paths = append(append(slices.Clone(paths), "/"), "/q", "/q/q", "/Q")
		for _, path := range paths[:len(paths)-4] {
			paths = append(paths, path+"/q")
		}
		for _, path := range paths {
			for _, to := range paths {
				checkRename(t, c.what, c.fs, path, to)
			}
		}
		if t.Failed() {
			t.FailNow()
		}
	}
}

// Nothing is renamed into what is below it, however deep, and however it was
// asked: in a row of directories each way down is a fault, each way up is none.
func TestRenamesInALadder(t *testing.T) {
	f := ladder("a", dir())
	for from := 1; from < 7; from++ {
		for to := 1; to < 7; to++ {
			path, goal := strings.Repeat("/a", from), strings.Repeat("/a", to-1)+"/b"
			r := checkRename(t, "a ladder", f, path, goal)
			wantCode(t, path+" to "+goal, r.Reply, codeIf(to > from, impl.ErrForm))
		}
	}
}

// What is renamed may come to stand deeper than a path can tell, and is all
// there behind it: back where it was it is as it was.
func TestRenamedTooDeepAndBack(t *testing.T) {
	f := tree(dir(entry("a", 1), entry("x", 6)), dir(entry("b", 2)), dir(entry("c", 3)), dir(entry("d", 4)), dir(entry("e", 5)), file(1, 9, 3, 4), dir(entry("y", 7)), dir())
	r := checkRename(t, "too deep", f, "/a", "/x/y/a")
	wantCode(t, "too deep", r.Reply, impl.OK)
	wantReply(t, "too deep", r.Fs, read("/x/y/a/b/c/d/e", 0, 100), nil, impl.ErrMany)
	wantTold(t, "just deep enough", r.Fs, call(impl.CallStat, "/x/y/a/b/c/d"), impl.CallResult{Value: 2101})
	wantReply(t, "too deep", r.Fs, call(impl.CallRemove, "/x/y/a/b/c/d"), nil, impl.ErrFull)
	back := checkRename(t, "back", r.Fs, "/x/y/a", "/a")
	if !same(back.Fs, f) {
		t.Errorf("%v, not %v", back.Fs, f)
	}
}

// A name that is renamed and renamed back is as it was, where nothing stood.
func TestRenamedThereAndBack(t *testing.T) {
	for _, c := range walkTrees() {
		for _, path := range c.paths {
			for _, to := range append(names("/q"), c.paths...) {
				if len(to) > 24 || strings.Count(to, "/") == 6 {
					continue
				}
				for _, goal := range names(to, to+"/q") {
					r := impl.RenamePath(c.fs, path, goal)
					if r.Reply != impl.OK || impl.WalkPath(c.fs, goal).Code == impl.OK {
						continue
					}
					back := impl.RenamePath(r.Fs, goal, path)
					if back.Reply != impl.OK || !same(back.Fs, c.fs) {
						t.Errorf("%s: %s to %s and back: %v, not %v", c.what, path, goal, back, c.fs)
					}
				}
			}
		}
	}
}
