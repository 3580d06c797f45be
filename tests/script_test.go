package tests

import (
	"fmt"
	"strings"
	"testing"

	"loop.example/g00295/impl"
)

// The names and signatures of chapter 16, as the document has them.
var (
	_ func(impl.World, string) impl.ScriptResult = impl.StepScript
	_ func(impl.World, string) impl.ScriptResult = impl.RunScript
	_ func(impl.Call) impl.TextResult            = impl.CallText
	_ func(string) impl.CallsResult              = impl.ParseCall
	_ func(string) impl.WordsResult              = impl.WordsOf
	_                                            = impl.ScriptResult{Code: int64(0), World: impl.World{}, Said: ""}
	_                                            = impl.CallsResult{Code: int64(0), Calls: []impl.Call{}}
	_                                            = impl.WordsResult{Code: int64(0), Words: []string{}}
	_                                            = [1]int{}[1200-impl.MaxScript] + [1]int{}[60-impl.MaxLines]
)

// wantSaid: a line, or a script, leaves this world and says this.
func wantSaid(t *testing.T, what string, r impl.ScriptResult, w impl.World, said string) {
	t.Helper()
	if r.Code != impl.OK || r.Said != said {
		t.Errorf("%s: code %d, said %q, not %q", what, r.Code, r.Said, said)
	}
	if !same(r.World, w) {
		t.Errorf("%s: the world is %v, not %v", what, r.World, w)
	}
}

func wantNotSaid(t *testing.T, what string, r impl.ScriptResult, code int64) {
	t.Helper()
	if !same(r, impl.ScriptResult{Code: code}) {
		t.Errorf("%s: %v, not code %d alone", what, r, code)
	}
}

// say has a line done that says this, and gives the world behind it.
func say(t *testing.T, w impl.World, line, said string) impl.World {
	t.Helper()
	r := impl.StepScript(w, line)
	if r.Code != impl.OK || r.Said != said {
		t.Fatalf("%q: code %d, said %q, not %q", line, r.Code, r.Said, said)
	}
	wantCode(t, line+": WorldFault", impl.WorldFault(r.World), impl.OK)
	return r.World
}

// script has lines done, whatever they say, but none has a code or comes to
// nothing.
func script(t *testing.T, w impl.World, lines ...string) impl.World {
	t.Helper()
	for _, line := range lines {
		r := impl.StepScript(w, line)
		if r.Code != impl.OK || strings.HasPrefix(r.Said, "no") {
			t.Fatalf("%q: code %d, said %q", line, r.Code, r.Said)
		}
		w = r.World
	}
	return w
}

func wantWordsOf(t *testing.T, line string, want ...string) {
	t.Helper()
	if r := impl.WordsOf(line); !same(r, impl.WordsResult{Words: want}) {
		t.Errorf("WordsOf %q: %q, code %d, not %q", line, r.Words, r.Code, want)
	}
}

func TestWords(t *testing.T) {
	wantWordsOf(t, "")
	for n := range 70 {
		blanks := strings.Repeat(" ", n)
		wantWordsOf(t, blanks)
		wantWordsOf(t, blanks+"a", "a")
		wantWordsOf(t, "a"+blanks, "a")
		wantWordsOf(t, blanks+"/a"+blanks, "/a")
		wantWordsOf(t, "a "+blanks+"b", "a", "b")
		wantWordsOf(t, blanks+"ab "+blanks+"c"+blanks+" def"+blanks, "ab", "c", "def")
	}
	wantWordsOf(t, "write /a 3 abc", "write", "/a", "3", "abc")
	wantWordsOf(t, " a  b ", "a", "b")
	wantWordsOf(t, "a a a", "a", "a", "a")
	wantWordsOf(t, "one", "one")
	wantWordsOf(t, "\"a b\"", "\"a", "b\"")
}

// A blank is the byte 32 and no other one, alone, between letters, and at both
// ends of a word.
func TestWordsOfEachByte(t *testing.T) {
	for n := range 256 {
		b := string([]byte{byte(n)})
		if n == 32 {
			wantWordsOf(t, b)
			wantWordsOf(t, "a"+b+"c", "a", "c")
			continue
		}
		wantWordsOf(t, b, b)
		wantWordsOf(t, "a"+b+"c", "a"+b+"c")
		wantWordsOf(t, " "+b+" a"+b+" "+b+"c ", b, "a"+b, b+"c")
	}
	// Runes that are blanks elsewhere, and pieces of runes.
	for _, word := range names("\u00a0", "\u2003", "\u3000", "a\u0085b", "\xe2\x80", "\xc3\x28", "\t\n\v\f\r", "\xff\xfe", "é𝐚") {
		wantWordsOf(t, word, word)
		wantWordsOf(t, "  "+word+" "+word, word, word)
	}
}

func TestManyWords(t *testing.T) {
	many := strings.Repeat("ab ", 30000)
	r := impl.WordsOf(many)
	if r.Code != impl.OK || len(r.Words) != 30000 || strings.Join(r.Words, " ")+" " != many {
		t.Errorf("%d words of %d", len(r.Words), 30000)
	}
	wantWordsOf(t, strings.Repeat(" ", 70000))
	long := strings.Repeat("x", 70000)
	wantWordsOf(t, " "+long+" ", long)
}

// The examples of the document, told as scripts.
func TestExampleOfScripts(t *testing.T) {
	w := newWorld(t, 1)
	text := "make /a\nwrite /a 0 hello\nrename /a /b\nread /b 0 100\n"
	r := impl.RunScript(w, text)
	b := script(t, w, "make /a", "write /a 0 hello", "rename /a /b")
	wantSaid(t, "hello", r, b, "ok\nok\nok\nok hello\n")
	lost := impl.RunScript(w, text+"crash 0\nshow\nlist /\n")
	wantSaid(t, "so, no sync, crash", lost, w, "ok\nok\nok\nok hello\nback\nok\n")
	commit := impl.CommitAt(impl.PlanSync(b.Disk, b.Live).Steps).Value
	kept := impl.RunScript(w, text+fmt.Sprintf("crash %d\nshow\n", commit+1))
	wantSaid(t, "so, cut off behind its commit's flush, crash", kept, syncOf(t, b), "ok\nok\nok\nok hello\nback\n/b file 1 5 hello\n")
}

// Each call, with a Reply and without one; all that it says is written by hand.
func TestWhatCallsSay(t *testing.T) {
	w := newWorld(t, 7)
	for _, c := range [][2]string{
		{"list /", "ok"},
		{"make /d", "ok"},
		{"make /d", "no 7"},
		{"mkdir /b", "ok"},
		{"mkdir /b/c", "ok"},
		{"mkdir /x/c", "no 4"},
		{"make /d/c", "no 9"},
		{"list /", "ok b d"},
		{"list /b/c", "ok"},
		{"list /d", "no 9"},
		{"list /e", "no 4"},
		{"read /d 0 5", "ok -"},
		{"stat /d", "ok 1100"},
		{"write /d 3 hi", "ok"},
		{"read /d 0 100", "ok ...hi"},
		{"read /d 3 1", "ok h"},
		{"read /d 4 9", "ok i"},
		{"read /d 0 3", "ok ..."},
		{"read /d 5 1", "ok -"},
		{"read /d 1 0", "ok -"},
		{"read /d 1000 100", "ok -"},
		{"read /d 1001 1", "no 3"},
		{"read /d 1 101", "no 3"},
		{"read /d 9999 9999", "no 3"},
		{"read /b 0 1", "no 9"},
		{"stat /d", "ok 1105"},
		{"stat /b", "ok 2101"},
		{"stat /b/c", "ok 2100"},
		{"stat /", "ok 2102"},
		{"stat /d/x", "no 9"},
		{"write /d 31 x", "ok"},
		{"write /d 31 xy", "no 2"},
		{"write /b 0 x", "no 9"},
		{"cut /d 33", "no 3"},
		{"cut /d 4", "ok"},
		{"cut /d 6", "ok"},
		{"read /d 0 99", "ok ...h.."},
		{"cut /b 0", "no 9"},
		{"link /d /b/e", "ok"},
		{"link /d /b/e", "no 7"},
		{"link /b /e", "no 9"},
		{"stat /b/e", "ok 1206"},
		{"list /b", "ok c e"},
		{"rename /b/c /b/a", "ok"},
		{"rename /b /b/a/b", "no 1"},
		{"rename /b/a /b/e", "no 9"},
		{"rename /x /y", "no 4"},
		{"list /b", "ok a e"},
		{"unlink /b", "no 9"},
		{"unlink /d", "ok"},
		{"unlink /d", "no 4"},
		{"rmdir /b/e", "no 1"},
		{"rmdir /b", "no 8"},
		{"rmdir /b/a", "ok"},
		{"rmdir /", "no 4"},
		{"list /", "ok b"},
		{"read /b/e 3 1", "ok h"},
		{"stat /b/e", "ok 1106"},
	} {
		before := w
		w = say(t, w, c[0], c[1])
		if strings.HasPrefix(c[1], "no") && !same(w, before) {
			t.Errorf("%q came to nothing, and the world is %v, not %v", c[0], w, before)
		}
		if !same(w, impl.CallWorld(before, impl.ParseCall(c[0]).Calls[0]).World) {
			t.Errorf("%q: the world is %v", c[0], w)
		}
	}
}

// Of read each byte is told as in TreeText, and Value stands nowhere.
func TestWhatIsReadOfEachByte(t *testing.T) {
	for n := range 256 {
		want := "."
		if n >= 'a' && n <= 'z' {
			want = string(rune(n))
		}
		f := withText([]byte{'q', byte(n), 'r'}, 1)
		w := worldOf(5, f, f)
		say(t, w, "read /a 0 9", "ok q"+want+"r")
		say(t, w, "read /a 1 1", "ok "+want)
		say(t, w, "show", "/a file 1 3 q"+want+"r\n/z dir 1\n")
	}
	for size := range 33 {
		f := withText([]byte(strings.Repeat("k", size)), 11)
		said := strings.Repeat("k", size)
		if size == 0 {
			said = "-"
		}
		say(t, worldOf(5, f, f), "read /a 0 100", "ok "+said)
		// Links of two digits: Kind times 1000 and what is beyond go together.
		say(t, worldOf(5, f, f), "stat /a", fmt.Sprint("ok ", 2100+size))
	}
}

// All names of a directory that has as many as it may have.
func TestWhatIsListed(t *testing.T) {
	w := newWorld(t, 1)
	said := "ok"
	for _, name := range names("a", "ab", "abcd", "b", "x", "zzzz") {
		w = say(t, w, "list /", said)
		w = say(t, w, "mkdir /"+name, "ok")
		said += " " + name
	}
	say(t, w, "list /", said)
	say(t, w, "make /y", "no 2")
}

func TestSyncLines(t *testing.T) {
	w := newWorld(t, 59998)
	for _, line := range names("sync", " sync", "sync ", "   sync   ") {
		wantSaid(t, "nothing to be synced", impl.StepScript(w, line), w, "ok")
	}
	w = script(t, w, "make /a", "write /a 0 text")
	for _, line := range names("sync", " sync", "sync ", "   sync   ") {
		wantSaid(t, line, impl.StepScript(w, line), syncOf(t, w), "ok")
	}
	w = say(t, w, "sync", "ok")
	wantNumber(t, "synced", impl.SeqOf(w.Disk), 59999)
	wantSaid(t, "synced again", impl.StepScript(w, "sync"), w, "ok")
	w = script(t, w, "cut /a 3", "sync")
	wantNumber(t, "the last number", impl.SeqOf(w.Disk), 60000)
	w = script(t, w, "cut /a 2")
	wantNotSaid(t, "no number is left", impl.StepScript(w, "sync"), impl.ErrFull)
	wantNotSaid(t, "no number is left", impl.StepScript(w, "crash 0"), impl.ErrFull)
	wantNotSaid(t, "no number is left", impl.StepScript(w, "crash 9999"), impl.ErrFull)
}

// A crash behind each number of steps of a sync: all that was put is there,
// flushed or not, so that the commit is there once it was put.
func TestCrashLines(t *testing.T) {
	kept := script(t, newWorld(t, 5), "make /a", "write /a 0 old", "mkdir /d", "sync")
	w := script(t, kept, "write /a 0 newer", "rename /a /d/b", "make /c")
	p := impl.PlanSync(w.Disk, w.Live).Steps
	commit := impl.CommitAt(p).Value
	old, now := 0, 0
	for n := range int64(len(p)) + 1 {
		line := fmt.Sprint("crash ", n)
		want := mountOf(t, line, cutSync(t, w, n, repeatedPicks(len(p))...))
		wantSaid(t, line, impl.StepScript(w, line), want, "back")
		wantSaid(t, line, impl.StepScript(w, fmt.Sprintf(" crash  %04d ", n)), want, "back")
		live := kept.Live
		if n >= commit {
			live, now = w.Live, now+1
		} else {
			old++
		}
		if r := impl.StepScript(w, line); !same(r.World.Live, live) || !same(r.World.Kept, live) || len(r.World.Disk.Cache) > 0 {
			t.Errorf("%s, the commit at %d: %v", line, commit, r.World)
		}
	}
	if old < 5 || now < 5 {
		t.Errorf("%d times old, %d times new", old, now)
	}
	wantSaid(t, "all of it", impl.StepScript(w, fmt.Sprint("crash ", len(p))), syncOf(t, w), "back")
	for _, n := range list(int64(len(p))+1, int64(len(p))+2, 49, 99, 100, 120, 121, 999, 1000, 9999) {
		wantNotSaid(t, fmt.Sprint("crash ", n), impl.StepScript(w, fmt.Sprint("crash ", n)), impl.ErrRange)
	}
	// What was kept is all there is to be synced: no steps.
	wantSaid(t, "nothing to be synced", impl.StepScript(kept, "crash 0"), kept, "back")
	wantNotSaid(t, "nothing to be synced", impl.StepScript(kept, "crash 1"), impl.ErrRange)
}

func repeatedPicks(n int) []bool {
	picks := make([]bool, n)
	for i := range picks {
		picks[i] = true
	}
	return picks
}

// The longest sync there is has twenty blocks waiting at once, and each of them
// is picked.
func TestCrashOfTheLongestSync(t *testing.T) {
	w := worldOf(5, tree(dir()), tenInodes())
	p := impl.PlanSync(w.Disk, w.Live).Steps
	for n := range len(p) + 1 {
		all := run(t, "by hand", w.Disk, p[:n])
		want := mountOf(t, "by hand", flush(t, all))
		wantSaid(t, fmt.Sprint("crash ", n), impl.StepScript(w, fmt.Sprint("crash ", n)), want, "back")
	}
	wantNotSaid(t, "one step more", impl.StepScript(w, fmt.Sprint("crash ", len(p)+1)), impl.ErrRange)
}

func TestShowLines(t *testing.T) {
	w := newWorld(t, 5)
	wantSaid(t, "an empty tree", impl.StepScript(w, "show"), w, "")
	w = script(t, w, "mkdir /d", "make /d/a", "write /d/a 1 x", "link /d/a /b", "make /e")
	said := "/b file 2 2 .x\n/d dir 1\n/d/a file 2 2 .x\n/e file 1 0 -\n"
	for _, line := range names("show", " show", "show  ", "   show ") {
		wantSaid(t, line, impl.StepScript(w, line), w, said)
	}
	// It is Live that is told, not what was kept.
	wantSaid(t, "behind a crash", impl.StepScript(say(t, w, "crash 0", "back"), "show"), newWorld(t, 5), "")
	for _, c := range itemTrees() {
		world := worldOf(5, tree(dir()), c.fs)
		if len(c.fs.Inodes) > 10 || impl.WorldFault(world) != impl.OK {
			t.Fatalf("%s: no world", c.what)
		}
		wantSaid(t, c.what, impl.StepScript(world, "show"), world, modelLines(c.items))
	}
}

func TestLinesOfNoWords(t *testing.T) {
	worlds := []impl.World{newWorld(t, 1), newWorld(t, 60000), worldOf(5, turnedTree(), turnedTree()), worldOf(5, tree(dir()), tenInodes())}
	for _, w := range worlds {
		for _, n := range []int{0, 1, 2, 9, 70000} {
			wantSaid(t, fmt.Sprint(n, " blanks"), impl.StepScript(w, strings.Repeat(" ", n)), w, "")
		}
		for _, line := range names("\t", "\r", "\v", "\x00", "\u00a0", "  \t ", "\xff", "#", ";") {
			wantNotSaid(t, fmt.Sprintf("%q", line), impl.StepScript(w, line), impl.ErrText)
		}
	}
}

// The lines of a script, each of which does what it does alone.
func TestScriptByHand(t *testing.T) {
	w := newWorld(t, 1)
	r := impl.RunScript(w, "mkdir /d\n\n   \nmake  /d/a \nwrite /d/a 0 one\nshow\nsync\nwrite /d/a 2 tw\nread /d/a 0 9\ncrash 99\nread /d/a 0 9\nshow \nrmdir /d\nmake\ncrash 0\n list /d\nread /d/a 0 9")
	wantSaid(t, "by hand", r, script(t, w, "mkdir /d", "make /d/a", "write /d/a 0 one", "sync"),
		"ok\nok\nok\n/d dir 1\n/d/a file 1 3 one\nok\nok\nok ontw\n! 3\nok ontw\n/d dir 1\n/d/a file 1 4 ontw\nno 8\n! 5\nback\nok a\nok one\n")
	wantSaid(t, "the empty text", impl.RunScript(r.World, ""), r.World, "")
	wantSaid(t, "empty lines", impl.RunScript(r.World, "\n\n\n"), r.World, "")
	wantSaid(t, "blanks", impl.RunScript(r.World, "  \n \n   "), r.World, "")
	wantSaid(t, "show of nothing", impl.RunScript(w, "show\nshow"), w, "")
	wantSaid(t, "show alone", impl.RunScript(r.World, "show"), r.World, "/d dir 1\n/d/a file 1 3 one\n")
	wantSaid(t, "show, twice", impl.RunScript(r.World, "show\n\nshow\n"), r.World, "/d dir 1\n/d/a file 1 3 one\n/d dir 1\n/d/a file 1 3 one\n")
	wantSaid(t, "a line feed is no blank", impl.RunScript(r.World, "list\n/d\n"), r.World, "! 5\n! 5\n")
	wantSaid(t, "a carriage return is none either", impl.RunScript(r.World, "list /d\r\nlist /d\n"), r.World, "! 5\nok a\n")
}
