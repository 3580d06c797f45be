package tests

import (
	"bytes"
	"math"
	"slices"
	"strings"
	"testing"

	"loop.example/g00295/impl"
)

// memoryLines are lines, and texts of several, each in memory of its own.
func memoryLines() []string {
	lines := someLines()
	for _, c := range linesByHand() {
		lines = append(lines, c.line, "  "+c.line+"  ", c.line+"\n")
	}
	for i := range lines {
		lines[i] = strings.Clone(lines[i])
	}
	return append(lines, strings.Repeat("a ", 50000), strings.Repeat(" ", 100000), strings.Repeat("\n", 100000), "make /"+strings.Repeat("a", 100000))
}

func memoryScripts() []string {
	return append(memoryLines(), "mkdir /x\nlist /\nshow\nsync\nwrite /a 0 text\nread /a 0 9\ncrash 3\nshow", "\n\nwink\nlink /a /y\ncrash 9999\nshow\n", strings.Repeat("list /\n", 60), strings.Repeat("list /\n", 61))
}

// checkTexts asks what takes a text alone for promise 1.
func checkTexts(t *testing.T, text string) {
	t.Helper()
	checkCall(t, "WordsOf", impl.WordsOf, text)
	r := checkCall(t, "ParseCall", impl.ParseCall, text).(impl.CallsResult)
	for _, c := range r.Calls {
		checkCall(t, "CallText", impl.CallText, c)
	}
}

func TestTextsPromiseOne(t *testing.T) {
	for _, text := range append(memoryScripts(), memoryTexts()...) {
		checkTexts(t, text)
		for _, word := range names("make ", "cut ", "link /a ", "write /a 1 ", "read ") {
			checkTexts(t, word+text)
		}
	}
}

func TestCallTextPromiseOne(t *testing.T) {
	for _, c := range memoryCalls(names("/", "/a", "/b/a", "/q/q", "", "/A", full6())) {
		checkCall(t, "CallText", impl.CallText, c)
	}
	room := []byte(letters(60))
	for _, data := range [][]byte{nil, {}, room[:0], room[:0:0], room[:1], room[3:43], room[3:44], room[:40:40], make([]byte, 70000)} {
		c := impl.Call{Kind: impl.CallWrite, Path: "/a", Data: data}
		r := checkCall(t, "CallText", impl.CallText, c)
		if !same(r, modelLine(c)) {
			t.Errorf("CallText %v: %v", c, r)
		}
	}
	if string(room) != letters(60) {
		t.Errorf("the bytes are %q", room)
	}
	for _, n := range list(math.MinInt64, math.MinInt64+1, -1<<32, -1, 0, 1, 9999, 10000, 1<<32, 1<<32+1, math.MaxInt64-1, math.MaxInt64) {
		for _, c := range []impl.Call{{Kind: n}, {Kind: n, Path: "/a"}, read("/a", n, 1), read("/a", 1, n), cut("/a", n), write("/a", n, "x")} {
			r := checkCall(t, "CallText", impl.CallText, c)
			if !same(r, modelLine(c)) {
				t.Errorf("CallText %v: %v", c, r)
			}
		}
	}
}

// checkScripts asks both functions that take a world for promise 1.
func checkScripts(t *testing.T, what string, w impl.World, lines ...string) {
	t.Helper()
	for _, line := range lines {
		checkCall(t, what+": StepScript", impl.StepScript, w, line)
		checkCall(t, what+": RunScript", impl.RunScript, w, line)
	}
}

func TestScriptsPromiseOne(t *testing.T) {
	scripts := memoryScripts()
	checkScripts(t, "a world", worldOf(5, turnedTree(), turnedTree()), scripts...)
	checkScripts(t, "a new one", newWorld(t, 1), scripts...)
	some := names("", "show", "sync", "crash 0", "crash 99", "list /", "read /a 0 9", "wink", "mkdir /n\nlist /n\nsync\nshow\n")
	for _, f := range memoryTrees() {
		checkScripts(t, "live", impl.World{Disk: formatted(t, 5), Live: f, Kept: tree(dir())}, some...)
		if len(f.Inodes) <= 10 {
			// Both have the same memory.
			checkScripts(t, "both", worldOf(5, f, f), some...)
			checkScripts(t, "all gone", worldOf(5, f, tree(dir())), some...)
		}
	}
	for _, c := range memoryDisks() {
		checkScripts(t, c.what, impl.World{Disk: c.disk, Live: tree(dir()), Kept: tree(dir())}, some...)
	}
	for _, c := range diskTurns() {
		w := worldOf(5, turnedTree(), turnedTree())
		c.do(&w.Disk)
		checkScripts(t, c.what, w, some...)
		w.Disk = withJournal(w.Disk, journalRows(5, modelInodePuts(turnedTree())...)...)
		checkScripts(t, c.what+", a journal", w, some...)
	}
	for _, seq := range list(1, 59999, 60000) {
		checkScripts(t, "numbers", worldOf(seq, turnedTree(), tree(dir())), some...)
	}
	checkScripts(t, "nothing", impl.World{}, some...)
	checkScripts(t, "empty lists", impl.World{Disk: impl.Disk{Blocks: [][]int64{}, Cache: puts()}, Live: impl.Fs{Inodes: inodes(), Data: [][]byte{}}, Kept: impl.Fs{Inodes: inodes(), Data: [][]byte{}}}, some...)
}

func TestScriptsByTurnsPromiseOne(t *testing.T) {
	x := dice(167)
	for range 60 {
		w := diceWorld(&x)
		for range 4 {
			checkScripts(t, "dice", w, diceLine(&x, w))
		}
		checkScripts(t, "dice", w, diceScript(&x, w, 10))
	}
}

// What is done with an answer is not seen in the next one, nor in the world or
// the line that it came of.
func TestScriptAnswersByTurns(t *testing.T) {
	words := impl.WordsOf("make /a").Words
	words[0] = "x"
	_ = append(words[:1], "y")
	wantWordsOf(t, "make /a", "make", "/a")

	calls := impl.ParseCall("write /a 3 abc").Calls
	copy(calls[0].Data, "xyz")
	_ = append(calls[0].Data, '!')
	calls[0].Path = "/x"
	wantCalls(t, "write /a 3 abc", write("/a", 3, "abc"))
	wantText(t, "told behind it", impl.CallText(write("/a", 3, "abc")), "write /a 3 abc")

	data := []byte("abc")
	told := impl.CallText(impl.Call{Kind: impl.CallWrite, Path: "/a", Data: data})
	copy(data, "xyz")
	wantText(t, "its bytes turned", told, "write /a 0 abc")

	w := script(t, newWorld(t, 5), "make /a", "write /a 0 text", "sync")
	before := ownWorld(w)
	for _, line := range names("", "sync", "show", "crash 0", "read /a 0 9", "cut /a 2", "list /", "make /a") {
		for _, r := range []impl.ScriptResult{impl.StepScript(w, line), impl.RunScript(w, line), impl.RunScript(w, "")} {
			for _, f := range []impl.Fs{r.World.Live, r.World.Kept} {
				f.Inodes[1].Size = 99
				f.Inodes[0].Entries[0].Name = "x"
				copy(f.Data[f.Inodes[1].Blocks[0]], bytes.Repeat([]byte("!"), 8))
			}
			r.World.Disk.Blocks[0][1] = 77
			if !same(w, before) {
				t.Fatalf("%q: the world turned: %v, not %v", line, w, before)
			}
		}
	}
	if !slices.Equal(impl.WordsOf("a b").Words, names("a", "b")) {
		t.Error("words")
	}
}
