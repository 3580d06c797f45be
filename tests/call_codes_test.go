package tests

import (
	"fmt"
	"math"
	"slices"
	"strings"
	"testing"

	"loop.example/g00295/impl"
)

// callPart is one of the fields that only some kinds have.
type callPart struct {
	what  string
	kinds []int64
	set   []func(c *impl.Call)
}

func callParts() []callPart {
	var to, from, size, data []func(c *impl.Call)
	for _, text := range names("/z", "x", "\x00", "/") {
		to = append(to, func(c *impl.Call) { c.To = text })
	}
	for _, n := range list(1, -1, 33, math.MinInt64, math.MaxInt64, 1<<32) {
		from = append(from, func(c *impl.Call) { c.From = n })
		size = append(size, func(c *impl.Call) { c.Size = n })
	}
	for _, n := range list(1, 39, 40) {
		data = append(data, func(c *impl.Call) { c.Data = make([]byte, n) })
	}
	return []callPart{
		{"To", list(impl.CallLink, impl.CallRename), to},
		{"From", list(impl.CallWrite, impl.CallRead), from},
		{"Size", list(impl.CallRead, impl.CallCut), size},
		{"Data", list(impl.CallWrite), data},
	}
}

func TestCallFaultOfKinds(t *testing.T) {
	for _, path := range names("", "/", "/a", "a", "/A", strings.Repeat("/", 100), full6()+"y") {
		for number := int64(-3); number < 16; number++ {
			want := codeIf(number < 1 || number > 11, impl.ErrForm)
			wantCode(t, fmt.Sprint("kind ", number), impl.CallFault(call(number, path)), want)
			wantCode(t, fmt.Sprint("kind ", number, ", Data empty"), impl.CallFault(impl.Call{Kind: number, Path: path, Data: []byte{}}), want)
		}
		for _, number := range list(math.MinInt64, -1<<32, 1<<8+1, 1<<32, 1<<32+1, 1<<32+11, math.MaxInt64) {
			wantCode(t, fmt.Sprint("kind ", number), impl.CallFault(call(number, path)), impl.ErrForm)
		}
	}
}

// Each kind with each set of the four parts, and each value of them.
func TestCallFaultOfParts(t *testing.T) {
	parts := callParts()
	for number := int64(0); number < 13; number++ {
		for set := range 1 << len(parts) {
			for turn := range 6 {
				c := call(number, "/a")
				want := codeIf(number < 1 || number > 11, impl.ErrForm)
				for i, p := range parts {
					if set>>i&1 == 1 {
						p.set[turn%len(p.set)](&c)
						want = firstCode(want, codeIf(!among(p.kinds, number), impl.ErrForm))
					}
				}
				wantCode(t, fmt.Sprint(c), impl.CallFault(c), want)
			}
		}
	}
}

func TestCallFaultOfData(t *testing.T) {
	for n := range 50 {
		c := impl.Call{Kind: impl.CallWrite, Data: make([]byte, n)}
		wantCode(t, fmt.Sprint(n, " bytes"), impl.CallFault(c), codeIf(n > 40, impl.ErrMany))
		c.From = math.MinInt64
		wantCode(t, fmt.Sprint(n, " bytes, From far below"), impl.CallFault(c), codeIf(n > 40, impl.ErrMany))
	}
	wantCode(t, "many bytes", impl.CallFault(impl.Call{Kind: impl.CallWrite, Data: make([]byte, 70000)}), impl.ErrMany)
	for what, c := range map[string]impl.Call{
		"41 bytes and To":           {Kind: impl.CallWrite, To: "/z", Data: make([]byte, 41)},
		"41 bytes and Size":         {Kind: impl.CallWrite, Size: 1, Data: make([]byte, 41)},
		"41 bytes of kind 0":        {Data: make([]byte, 41)},
		"41 bytes of kind 12":       {Kind: 12, Data: make([]byte, 41)},
		"41 bytes of a read":        {Kind: impl.CallRead, Data: make([]byte, 41)},
		"41 bytes of a rename":      {Kind: impl.CallRename, To: "/z", Data: make([]byte, 41)},
		"41 bytes and all the rest": {Kind: impl.CallWrite, Path: "/a", To: "/z", From: 1, Size: 1, Data: make([]byte, 41)},
	} {
		wantCode(t, what, impl.CallFault(c), impl.ErrForm)
	}
}

// way is a path in parts, so that each of them can be wrong by itself.
type way struct {
	above, last, tail string
}

func (w way) text() string {
	return w.above + "/" + w.last + w.tail
}

// errand is what DoCall is asked.
type errand struct {
	fs       impl.Fs
	call     impl.Call
	path, to way
	busy     []int64
}

func (e *errand) enter(in int64, name string, at int64) {
	x := &e.fs.Inodes[in]
	leads := leadsOf(*x)
	leads[name] = at
	x.Entries = entriesOf(leads)
	if e.fs.Inodes[at].Kind == impl.KindFile {
		e.fs.Inodes[at].Links++
	}
}

func (e *errand) has(in int64, name string) bool {
	return slices.Contains(namesOf(e.fs.Inodes[in]), name)
}

// blunder is one thing that is wrong with it.
type blunder struct {
	what string
	code int64
	do   func(e *errand)
}

// newErrand is a call of this kind that is done.
func newErrand(number int64) *errand {
	e := &errand{busy: list(0), call: call(number, ""), path: way{"/a", "x", ""}}
	e.fs = tree(dir(entry("a", 1), entry("b", 2), entry("f", 3)), dir(entry("d", 5), entry("e", 6), entry("x", 4)), dir(), file(1, 0), file(1, 9, 3, 4), dir(entry("g", 7)), dir(), file(1, 1, 8), kind(0), kind(0))
	switch number {
	case impl.CallMake, impl.CallDir:
		e.path = way{"/b", "y", ""}
	case impl.CallRemove, impl.CallList:
		e.path.last = "e"
	case impl.CallWrite:
		e.call.Data = []byte("hi")
	case impl.CallRename:
		e.path.last = "e"
		e.to = way{"/b", "y", ""}
	case impl.CallLink:
		e.to = way{"/b", "y", ""}
	}
	return e
}

// codeBlunders are asked ahead of any reply, in this order.
func codeBlunders(number int64) []blunder {
	data := int64(impl.ErrForm)
	if number == impl.CallWrite {
		data = impl.ErrMany
	}
	return []blunder{
		{"a block of two", impl.ErrTaken, func(e *errand) { e.fs.Inodes[7].Blocks[0] = 3 }},
		{"what its kind has not", impl.ErrForm, func(e *errand) {
			if number == impl.CallLink || number == impl.CallRename {
				e.call.Size = 1
			} else {
				e.call.To = "/z"
			}
		}},
		{"many bytes of Data", data, func(e *errand) { e.call.Data = freshText(41) }},
		{"many busy ones", impl.ErrMany, func(e *errand) { e.busy = fill(21, 0) }},
		{"a busy one that is none", impl.ErrRange, func(e *errand) { e.busy = append(slices.Clone(e.busy)[1:], 20) }},
	}
}

// pathBlunders are of one path, in the order of chapter 9.
func pathBlunders(what string, of func(e *errand) *way) []blunder {
	return []blunder{
		{what + " has a wrong byte", impl.ErrText, func(e *errand) { of(e).tail = "." }},
		{"the parent of " + what + " is not there", impl.ErrNone, func(e *errand) { of(e).above = "/q" }},
		{"the parent of " + what + " is a file", impl.ErrDir, func(e *errand) {
			if of(e).above != "/q" {
				of(e).above = "/f"
			}
		}},
	}
}

// lastBlunder has the path lead elsewhere, if it led to this.
func lastBlunder(what string, code int64, was, last string) blunder {
	return blunder{what, code, func(e *errand) {
		if e.path.last == was {
			e.path.last = last
		}
	}}
}

// goalBlunders are of what stands at /b/y, where something is to stand.
func goalBlunders(there int64) []blunder {
	return []blunder{
		{"a file is there", there, func(e *errand) { e.enter(2, "y", 3) }},
		{"a directory with entries is there", impl.ErrFull, func(e *errand) {
			if !e.has(2, "y") {
				e.fs.Inodes[8] = dir()
				e.enter(8, "z", 3)
				e.enter(2, "y", 8)
			}
		}},
		{"MaxEntries", impl.ErrMany, func(e *errand) {
			for i := 0; len(e.fs.Inodes[2].Entries) < 6; i++ {
				e.enter(2, "m"+string(rune('a'+i)), 3)
			}
		}},
	}
}

// replyBlunders are those of each kind, in the order of chapter 10.
func replyBlunders(number int64) []blunder {
	path := pathBlunders("the path", func(e *errand) *way { return &e.path })
	to := pathBlunders("To", func(e *errand) *way { return &e.to })
	goal := goalBlunders(impl.ErrTaken)
	from := blunder{"From above its bound", impl.ErrRange, func(e *errand) { e.call.From = 1001 }}
	noRoom := blunder{"no room", impl.ErrFull, func(e *errand) {
		if slices.Equal(e.busy, list(0)) {
			e.busy = upTo(20)
		}
	}}
	size := func(n int64) blunder {
		return blunder{"Size above its bound", impl.ErrRange, func(e *errand) { e.call.Size = n }}
	}
	noneOf := func(was string) blunder { return lastBlunder("no such name", impl.ErrNone, was, "q") }
	isDir := lastBlunder("a directory", impl.ErrDir, "x", "e")
	switch number {
	case impl.CallMake, impl.CallDir:
		return append(path, goal[0], goal[2], blunder{"no inode is free", impl.ErrFull, func(e *errand) {
			e.fs.Inodes[8], e.fs.Inodes[9] = dir(), dir()
			e.enter(5, "m", 8)
			e.enter(5, "n", 9)
		}})
	case impl.CallWrite:
		return append(path, noneOf("x"), isDir, from, blunder{"more than a file has", impl.ErrMany, func(e *errand) {
			if len(e.call.Data) < 33 {
				e.call.Data = freshText(33)
			}
		}}, noRoom)
	case impl.CallRead:
		return append(path, noneOf("x"), isDir, from, size(101))
	case impl.CallCut:
		return append(path, noneOf("x"), isDir, size(33), blunder{"no room", impl.ErrFull, func(e *errand) {
			noRoom.do(e)
			e.call.Size = max(e.call.Size, 1)
		}})
	case impl.CallUnlink:
		return append(path, noneOf("x"), isDir)
	case impl.CallRemove:
		return append(path, noneOf("e"), lastBlunder("a file", impl.ErrForm, "e", "x"), lastBlunder("entries", impl.ErrFull, "e", "d"))
	case impl.CallLink:
		return slices.Concat(append(path, noneOf("x"), isDir), to, []blunder{goal[0], goal[2]})
	case impl.CallRename:
		within := blunder{"into itself", impl.ErrForm, func(e *errand) {
			if e.to.above == "/b" {
				e.to.above = "/a/e"
			}
		}}
		return slices.Concat(append(path, noneOf("e")), append(to, within), goalBlunders(impl.ErrDir))
	case impl.CallList:
		return append(path, noneOf("e"), lastBlunder("a file", impl.ErrDir, "e", "x"))
	}
	return append(path, noneOf("x"))
}

// checkErrand does all blunders, of which the first tells the code or, if it is
// none of those of codes, the reply.
func checkErrand(t *testing.T, number int64, codes, replies []blunder) {
	t.Helper()
	e := newErrand(number)
	what := fmt.Sprint("kind ", number, ", wrong:")
	want := impl.CallResult{}
	for _, b := range codes {
		want.Code = firstCode(want.Code, b.code)
	}
	for _, b := range replies {
		want.Reply = firstCode(want.Reply, b.code)
	}
	for _, b := range append(codes[:len(codes):len(codes)], replies...) {
		b.do(e)
		what += " " + b.what + ","
	}
	e.call.Path = e.path.text()
	if e.to != (way{}) {
		e.call.To = e.to.text()
	}
	r := impl.DoCall(e.fs, e.call, e.busy)
	switch {
	case want.Code != impl.OK:
		want.Reply = impl.OK
	case want.Reply != impl.OK:
		want.Fs = e.fs
	default:
		checkAct(t, what, e.fs, e.call, e.busy)
		want = impl.CallResult{Value: r.Value, Bytes: r.Bytes, Names: r.Names, Fs: r.Fs}
	}
	if !same(r, want) {
		t.Errorf("%s: %v: %v, not %v", what, e.call, r, want)
	}
	checkPairErrand(t, what, e, want)
}

// checkPairErrand: what is asked of two paths by itself has no call and no busy
// blocks, and so no other code than that of the file system.
func checkPairErrand(t *testing.T, what string, e *errand, want impl.CallResult) {
	t.Helper()
	var r impl.CallResult
	switch e.call.Kind {
	case impl.CallLink:
		r = impl.LinkPath(e.fs, e.call.Path, e.call.To)
	case impl.CallRename:
		r = impl.RenamePath(e.fs, e.call.Path, e.call.To)
	default:
		return
	}
	if code := modelFault(e.fs); code != impl.OK {
		want = impl.CallResult{Code: code}
	} else if want.Code != impl.OK {
		want = impl.DoCall(e.fs, impl.Call{Kind: e.call.Kind, Path: e.call.Path, To: e.call.To}, nil)
	}
	if !same(r, want) {
		t.Errorf("%s: by itself: %v, not %v", what, r, want)
	}
}

func chosen(all []blunder, set int) []blunder {
	var some []blunder
	for i, b := range all {
		if set>>i&1 == 1 {
			some = append(some, b)
		}
	}
	return some
}

// All sets of what gives a reply, and all sets of what gives a code, these
// beside each one that gives a reply.
func TestWhichReplyComesFirst(t *testing.T) {
	for number := int64(1); number < 12; number++ {
		codes, replies := codeBlunders(number), replyBlunders(number)
		for set := range 1 << len(replies) {
			checkErrand(t, number, nil, chosen(replies, set))
		}
		for set := range 1 << len(codes) {
			checkErrand(t, number, chosen(codes, set), nil)
			for i := range replies {
				checkErrand(t, number, chosen(codes, set), replies[i:i+1])
			}
		}
		if t.Failed() {
			t.FailNow()
		}
	}
}

// wantNoCalls asks all functions for the code of a file system, whatever else
// is asked.
func wantNoCalls(t *testing.T, what string, f impl.Fs, code int64) {
	t.Helper()
	want := impl.CallResult{Code: code}
	for number := int64(0); number < 13; number++ {
		for _, path := range names("/", "/a", "/a/x", "", "/A") {
			for _, busy := range [][]int64{nil, list(3), list(20), fill(21, 0)} {
				if r := impl.DoCall(f, call(number, path), busy); !same(r, want) {
					t.Errorf("%s: DoCall %d of %q: %v, not code %d", what, number, path, r, code)
				}
			}
		}
	}
	for _, path := range names("/", "/a", "/b", "/x", "", "/A") {
		for _, to := range names("/", "/a", "/z", "", "/A") {
			if r := impl.RenamePath(f, path, to); !same(r, want) {
				t.Errorf("%s: RenamePath %q, %q: %v, not code %d", what, path, to, r, code)
			}
			if r := impl.LinkPath(f, path, to); !same(r, want) {
				t.Errorf("%s: LinkPath %q, %q: %v, not code %d", what, path, to, r, code)
			}
		}
	}
	for _, calls := range [][]impl.Call{nil, {call(impl.CallStat, "/")}, {call(0, "/")}, make([]impl.Call, 61), slices.Repeat([]impl.Call{call(impl.CallStat, "/")}, 61)} {
		if r := impl.RunCalls(f, calls); !same(r, want) {
			t.Errorf("%s: RunCalls of %d: %v, not code %d", what, len(calls), r, code)
		}
	}
}

func TestFaultsAheadOfCalls(t *testing.T) {
	for _, c := range append(turnedTrees(), faultyTrees()...) {
		if c.code != impl.OK {
			wantNoCalls(t, c.what, c.fs, c.code)
		}
	}
}

// The codes for busy blocks come behind those of a call, and ahead of a reply,
// of each kind.
func TestBusyCodesOfCalls(t *testing.T) {
	for number := int64(1); number < 12; number++ {
		e := newErrand(number)
		e.call.Path = e.path.text()
		if e.to != (way{}) {
			e.call.To = e.to.text()
		}
		for _, c := range wrongBusy() {
			r := impl.DoCall(e.fs, e.call, c.busy)
			if c.code != impl.OK && !same(r, impl.CallResult{Code: c.code}) || r.Code != c.code {
				t.Errorf("%v, busy %s: %v, not code %d", e.call, c.what, r, c.code)
			}
			none := impl.DoCall(e.fs, impl.Call{Kind: number, Path: "/Q"}, c.busy)
			want := impl.CallResult{Code: c.code}
			if c.code == impl.OK {
				want = impl.CallResult{Reply: impl.ErrText, Fs: e.fs}
			}
			if !same(none, want) {
				t.Errorf("kind %d, busy %s, no path: %v, not %v", number, c.what, none, want)
			}
		}
	}
}
