package tests

import (
	"fmt"
	"math"
	"testing"

	"loop.example/g00295/impl"
)

// wantNoList asks all functions for the code of a file system, at whatever
// place.
func wantNoList(t *testing.T, what string, f impl.Fs, code int64) {
	t.Helper()
	wantNoItems(t, what+": ItemsOf", impl.ItemsOf(f), code)
	wantNoText(t, what+": TreeText", impl.TreeText(f), code)
	wantNoNumber(t, what+": SizeOf", impl.SizeOf(f), code)
	for _, at := range list(math.MinInt64, -1, 0, 1, 2, 9, 10, int64(len(f.Inodes)), math.MaxInt64) {
		wantNoText(t, fmt.Sprint(what, ": PathOf ", at), impl.PathOf(f, at), code)
	}
	if impl.SameTrees(f, f) || impl.SameTrees(f, tree(dir())) || impl.SameTrees(tree(dir()), f) {
		t.Errorf("%s: SameTrees of %v", what, f)
	}
}

func TestFaultsAheadOfLists(t *testing.T) {
	for _, c := range append(turnedTrees(), faultyTrees()...) {
		if c.code == impl.OK {
			checkListed(t, c.what, c.fs)
		} else {
			wantNoList(t, c.what, c.fs, c.code)
		}
	}
}

// Of PathOf all pairs of what is wrong: the file system, the place, and that
// nothing leads there.
func TestWhichCodeOfPathOfComesFirst(t *testing.T) {
	for n := int64(1); n < 11; n++ {
		for _, broken := range []bool{false, true} {
			f := tree(append(inodes(dir()), alike(int(n)-1, kind(0))...)...)
			fault := int64(impl.OK)
			if broken {
				f.Data[3] = []byte("x")
				fault = impl.ErrForm
			}
			for _, at := range append(upTo(12), math.MinInt64, -1<<32, -2, -1, 1<<32, 1<<32+1, math.MaxInt64) {
				none := codeIf(at < 0 || at >= n, impl.ErrRange)
				code := firstCode(fault, none, codeIf(at > 0, impl.ErrNone))
				want := impl.TextResult{Code: code}
				if code == impl.OK {
					want.Text = "/"
				}
				if r := impl.PathOf(f, at); r != want {
					t.Errorf("%d inodes, broken %v: PathOf %d is %v, not %v", n, broken, at, r, want)
				}
			}
		}
	}
}

// A place that is free has no path, wherever it stands, and the places beside
// it have theirs.
func TestPathOfFreePlaces(t *testing.T) {
	for free := int64(1); free < 7; free++ {
		all := inodes(dir())
		for at := int64(1); at < 7; at++ {
			if at == free {
				all = append(all, kind(0))
				continue
			}
			all[0].Entries = append(all[0].Entries, entry(string(rune('a'+at)), at))
			all = append(all, inodes(dir(), file(1, 0))[at%2])
		}
		f := tree(all...)
		wantCode(t, "a free place", impl.FsFault(f), impl.OK)
		for at := int64(1); at < 7; at++ {
			if at == free {
				wantNoText(t, fmt.Sprint("free ", free), impl.PathOf(f, at), impl.ErrNone)
			} else {
				wantText(t, fmt.Sprint("free ", free), impl.PathOf(f, at), "/"+string(rune('a'+at)))
			}
		}
		wantNoText(t, "behind the last", impl.PathOf(f, 7), impl.ErrRange)
	}
}
