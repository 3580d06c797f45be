package tests

import (
	"fmt"
	"slices"
	"testing"

	"loop.example/g00295/impl"
)

// checkRun holds RunCalls against calls that are done one behind the other, and
// asks that two parts come to what one comes to, wherever they are cut.
func checkRun(t *testing.T, what string, f impl.Fs, calls []impl.Call, cuts []int64) impl.CallResult {
	t.Helper()
	want := impl.CallResult{Fs: f}
	for _, c := range calls {
		r := impl.DoCall(want.Fs, c, nil)
		want.Fs = r.Fs
		if r.Reply != impl.OK {
			want.Value++
		}
	}
	run := impl.RunCalls(f, calls)
	if !same(run, want) {
		t.Errorf("%s: %d calls: %v, not %v", what, len(calls), run, want)
	}
	wantCode(t, what+": FsFault", impl.FsFault(run.Fs), impl.OK)
	for _, cut := range cuts {
		first := impl.RunCalls(f, calls[:cut])
		second := impl.RunCalls(first.Fs, calls[cut:])
		wantCode(t, what+": the first part", first.Code, impl.OK)
		wantCode(t, what+": the second part", second.Code, impl.OK)
		if !same(second.Fs, run.Fs) || first.Value+second.Value != run.Value {
			t.Errorf("%s: in two parts at %d: %v and %v, not %v", what, cut, first, second, run)
		}
	}
	return run
}

func TestRunsByDice(t *testing.T) {
	d := dice(13)
	for row := range 200 {
		f := diceStart(&d)
		var calls []impl.Call
		now := f
		for range d.below(61) {
			c := diceCall(&d, modelPaths(now))
			calls = append(calls, c)
			now = impl.DoCall(now, c, nil).Fs
		}
		n := int64(len(calls))
		cuts := list(0, n, d.below(n+1), d.below(n+1))
		if row < 6 {
			cuts = upTo(n + 1)
		}
		checkRun(t, fmt.Sprint("row ", row), f, calls, cuts)
		if t.Failed() {
			t.FailNow()
		}
	}
}

// Calls of all kinds; how many come to nothing is counted by hand.
func TestRunByHand(t *testing.T) {
	calls := []impl.Call{
		call(impl.CallDir, "/d"), call(impl.CallDir, "/d"), // the second is there
		call(impl.CallMake, "/d/a"), write("/d/a", 0, "hello"), write("/d/a", 30, "hello"), // too much
		link("/d/a", "/b"), link("/d", "/c"), // a directory
		read("/b", 0, 5), read("/b", 0, 101), // a Size above its bound
		rename("/d", "/d/x"), rename("/d", "/e"), // into itself
		call(impl.CallStat, "/e/a"), call(impl.CallStat, "/d/a"), // its old name
		cut("/e/a", 2), call(impl.CallList, "/b"), // a file
		call(impl.CallUnlink, "/b"), call(impl.CallUnlink, "/b"), // gone
		call(impl.CallRemove, "/e"), // not empty
	}
	r := checkRun(t, "by hand", impl.NewFs(nil).Fs, calls, upTo(int64(len(calls))+1))
	want := impl.Fs{Inodes: inodes(dir(entry("e", 1)), dir(entry("a", 2)), file(1, 2, 1)), Data: make([][]byte, 20)}
	want.Data[1] = []byte("he")
	if !same(r, impl.CallResult{Value: 9, Fs: want}) {
		t.Errorf("%v, not 9 and %v", r, want)
	}
}

func TestHowManyCallsARunHas(t *testing.T) {
	f := tree(dir(entry("a", 1), entry("b", 2)), file(1, 9, 3, 4), dir())
	for _, none := range [][]impl.Call{nil, {}} {
		if r := impl.RunCalls(f, none); !same(r, impl.CallResult{Fs: f}) {
			t.Errorf("no calls: %v", r)
		}
	}
	there, gone := call(impl.CallStat, "/a"), call(impl.CallStat, "/q")
	for n := range 70 {
		for _, c := range []impl.Call{there, gone, write("/a", 0, "x")} {
			r := impl.RunCalls(f, slices.Repeat([]impl.Call{c}, n))
			if n > 60 {
				if !same(r, impl.CallResult{Code: impl.ErrMany}) {
					t.Errorf("%d calls: %v", n, r)
				}
				continue
			}
			wantCode(t, fmt.Sprint(n, " calls"), r.Code, impl.OK)
			want := int64(0)
			if c.Path == "/q" {
				want = int64(n)
			}
			if r.Value != want || r.Reply != impl.OK || len(r.Bytes)+len(r.Names) != 0 {
				t.Errorf("%d calls: %v, not %d", n, r, want)
			}
		}
	}
	checkRun(t, "60 calls", f, slices.Concat(slices.Repeat([]impl.Call{there}, 20), slices.Repeat([]impl.Call{gone}, 20), slices.Repeat([]impl.Call{write("/a", 9, "xy")}, 20)), upTo(61))
}

// A call with a fault, wherever it stands, leaves nothing done; of several the
// first one tells the code.
func TestRunsWithAFault(t *testing.T) {
	f := tree(dir(entry("a", 1)), file(1, 9, 3, 4))
	form, many := call(12, "/a"), impl.Call{Kind: impl.CallWrite, Path: "/a", Data: make([]byte, 41)}
	more := impl.Call{Kind: impl.CallMake, Path: "/a", To: "/z"}
	for n := 1; n < 61; n++ {
		good := slices.Repeat([]impl.Call{call(impl.CallUnlink, "/a")}, n)
		for _, at := range []int{0, n / 2, n - 1} {
			for _, wrong := range []impl.Call{form, many, more} {
				calls := slices.Clone(good)
				calls[at] = wrong
				r := impl.RunCalls(f, calls)
				if !same(r, impl.CallResult{Code: impl.CallFault(wrong)}) {
					t.Errorf("%d calls, %v at %d: %v", n, wrong, at, r)
				}
			}
		}
	}
	for what, c := range map[string]struct {
		calls []impl.Call
		code  int64
	}{
		"ErrForm ahead of ErrMany":          {[]impl.Call{form, many}, impl.ErrForm},
		"ErrMany ahead of ErrForm":          {[]impl.Call{many, form}, impl.ErrMany},
		"a good one, ErrMany, then ErrForm": {[]impl.Call{call(impl.CallStat, "/"), many, more}, impl.ErrMany},
		"a good one, ErrForm, then ErrMany": {[]impl.Call{call(impl.CallStat, "/"), more, many}, impl.ErrForm},
		"behind a reply":                    {[]impl.Call{call(impl.CallStat, "/q"), form}, impl.ErrForm},
		"61 calls, the first with a fault":  {append([]impl.Call{form}, slices.Repeat([]impl.Call{call(impl.CallStat, "/")}, 60)...), impl.ErrMany},
		"61 calls, the last with a fault":   {append(slices.Repeat([]impl.Call{call(impl.CallStat, "/")}, 60), form), impl.ErrMany},
		"61 calls, all with a fault":        {slices.Repeat([]impl.Call{form}, 61), impl.ErrMany},
		"60 calls, the last with a fault":   {append(slices.Repeat([]impl.Call{call(impl.CallStat, "/")}, 59), form), impl.ErrForm},
	} {
		if r := impl.RunCalls(f, c.calls); !same(r, impl.CallResult{Code: c.code}) {
			t.Errorf("%s: %v, not code %d", what, r, c.code)
		}
	}
}
