package tests

import (
	"fmt"
	"slices"
	"strings"
	"testing"

	"loop.example/g00295/impl"
)

// someLines are lines of all kinds, and such as are none.
func someLines() []string {
	return names("", "   ", "sync", "crash 0", "crash 5", "crash 9999", "show", "make /x", "write /a 0 x", "read /a 0 9", "stat /", "list /q", "list /A", "wink", "sync x", "crash", "make", "\n", "sync\n", "show\n\n", "make /x\n", "wink\n")
}

// wantScriptCode asks both functions of scripts for the fault of a world,
// whatever else they are told.
func wantScriptCode(t *testing.T, what string, w impl.World, code int64) {
	t.Helper()
	wantCode(t, what+": by the model", modelWorld(w), code)
	for _, line := range someLines() {
		what := fmt.Sprintf("%s: %q", what, line)
		if code != impl.OK {
			wantNotSaid(t, what, impl.StepScript(w, line), code)
			wantNotSaid(t, what, impl.RunScript(w, line), code)
			continue
		}
		wantCode(t, what, impl.StepScript(w, line).Code, modelScriptStep(w, line).Code)
		wantCode(t, what, impl.RunScript(w, line).Code, impl.OK)
	}
	for _, text := range []string{strings.Repeat("\n", 61), strings.Repeat(" ", 1201), strings.Repeat("show\n", 70)} {
		wantNotSaid(t, what+": too much", impl.RunScript(w, text), firstCode(code, impl.ErrMany))
	}
}

// All that may be wrong with a world, together.
func TestWorldFaultsAheadOfScripts(t *testing.T) {
	for set := range 1 << 9 {
		w, x := mishap{set: set}, worldOf(5, turnedTree(), turnedTree())
		w.turnWorld(&x)
		wantScriptCode(t, fmt.Sprintf("set %b", set), x, w.code)
	}
	for _, c := range faultyTrees() {
		top := tree(dir())
		wantScriptCode(t, "Live is "+c.what, impl.World{Disk: formatted(t, 5), Live: c.fs, Kept: top}, c.code)
		wantScriptCode(t, "Kept is "+c.what, impl.World{Disk: formatted(t, 5), Live: top, Kept: c.fs}, firstCode(c.code, codeIf(!same(c.fs, top), impl.ErrState)))
	}
	for _, c := range allDisks() {
		wantScriptCode(t, c.what, impl.World{Disk: c.disk, Live: tree(dir()), Kept: tree(dir())}, firstCode(c.code, impl.ErrForm))
	}
	wantScriptCode(t, "nothing", impl.World{}, impl.ErrForm)
}

// wantNoLine: such a line has ErrText in each world, where nothing is to be
// synced, where something is, and where no number is left.
func wantNoLine(t *testing.T, lines ...string) {
	t.Helper()
	f := tree(dir(entry("a", 1)), file(1, 9, 3, 4))
	for _, w := range []impl.World{worldOf(5, f, f), worldOf(5, tree(dir()), f), worldOf(60000, tree(dir()), f)} {
		for _, line := range lines {
			wantNotSaid(t, fmt.Sprintf("%q", line), impl.StepScript(w, line), impl.ErrText)
			if !strings.Contains(line, "\n") {
				wantSaid(t, fmt.Sprintf("%q", line), impl.RunScript(w, line), w, "! 5\n")
			}
		}
	}
}

func TestLinesThatAreNone(t *testing.T) {
	wantNoLine(t, "wink", "wink /a", "ok", "no 4", "back", "! 5", "0", "/", "/a", "#", "a b c", "\t", "-")
	for _, word := range names("sync", "show", "crash", "make", "list") {
		for _, more := range names("", " 0", " /a", " 0 0") {
			wantNoLine(t, strings.ToUpper(word)+more, strings.ToUpper(word[:1])+word[1:]+more, word[:len(word)-1]+more, word+"s"+more, word+word+more, "\t"+word+more, word+"\t"+more, "x "+word+more, word+"\r"+more, word+"\x00"+more)
		}
	}
	wantNoLine(t, "sync sync", "sync 0", "sync x", "sync /", " sync  -", "sync \t", "sync\t", "syn c")
	wantNoLine(t, "show show", "show 0", "show x", "show /", "show /a", " show  -", "show \t", "sho w")
	wantNoLine(t, "crash", " crash ", "crash 0 0", "crash 0 x", "crash x 0", "crash crash", "crash 1 2 3", "crash 0 \t", "crash0", "cr ash 0")
	for _, word := range names("a", "-1", "+1", "-0", "00000", "00001", "10000", "99999", "4294967296", "18446744073709551616", "0x1", "1e1", "1.0", "1_0", "1a", "a1", "/", "/a", "١", "\t0", "0\t", "0\x00", "x", "all", strings.Repeat("0", 1000)) {
		wantNoLine(t, "crash "+word, " crash  "+word+" ")
	}
	for number, form := range callForms {
		line := modelLine(soundCall(number)).Text
		wantNoLine(t, line+" x", line+" 0", "x "+line, strings.Fields(form)[0], "sync "+line, "show "+line, line+" sync", strings.ToUpper(line))
		for _, path := range names("/A", "a", "/a/", "//", full6()+"y", "/abcde", "/a/b/c/d/e/f/g", "/a1", "/a.b", "..") {
			wantNoLine(t, strings.Replace(line, "/a", path, 1))
		}
	}
	wantNoLine(t, "write /a 0 A", "write /a 0 a.", "write /a 0 "+letters(41), "write /a 0", "write /a 00000 a", "read /a 0 10000", "read /a -1 0", "cut /a -1", "cut /a x")
}

// A byte 10 anywhere, also in lines that would be nothing or have a code of
// their own.
func TestLineFeedsInSteps(t *testing.T) {
	wantNoLine(t, "\n", "\n\n", " \n", "\n ", "\t\n")
	for _, line := range names("sync", "crash 0", "crash 99", "show", "make /x", "list /", "wink", "read /a 0 9", "write /a 0 x") {
		for at := range len(line) + 1 {
			wantNoLine(t, line[:at]+"\n"+line[at:], line[:at]+" \n "+line[at:])
		}
		wantNoLine(t, line+"\n"+line, line+"\n\n", "   "+line+"   \n")
	}
}

// A line with a code leaves the world that it was told as it was, and tells
// neither a world nor a word; what a script goes on in is that world.
func TestWhatALineWithACodeLeaves(t *testing.T) {
	f := tree(dir(entry("a", 1)), file(1, 9, 3, 4))
	spoilt := worldOf(5, turnedTree(), turnedTree())
	spoilt.Disk = withJournal(spoilt.Disk, journalRows(5, putOf(17, 1, 1, 0))...)
	unnamed := worldOf(5, turnedTree(), turnedTree())
	unnamed.Disk = withJournal(unnamed.Disk, journalRows(5, putOf(18, 0, 0, 0))...)
	for what, c := range map[string]struct {
		world impl.World
		line  string
		code  int64
	}{
		"no number is left":                  {worldOf(60000, tree(dir()), f), "sync", impl.ErrFull},
		"no number is left, a crash":         {worldOf(60000, tree(dir()), f), "crash 0", impl.ErrFull},
		"no number is left, nothing to do":   {worldOf(60000, f, f), "sync", impl.ErrFull},
		"too many steps":                     {worldOf(5, tree(dir()), f), "crash 15", impl.ErrRange},
		"too many steps, nothing to do":      {worldOf(5, f, f), "crash 1", impl.ErrRange},
		"no inode in the journal":            {spoilt, "crash 0", impl.ErrForm},
		"a free one that is named":           {unnamed, "crash 0", impl.ErrNone},
		"steps ahead of what is mounted":     {spoilt, "crash 1", impl.ErrRange},
		"no line":                            {worldOf(5, tree(dir()), f), "wink", impl.ErrText},
		"no path":                            {worldOf(5, tree(dir()), f), "make /A", impl.ErrText},
		"no number":                          {worldOf(5, tree(dir()), f), "crash x", impl.ErrText},
		"no line ahead of no number is left": {worldOf(60000, tree(dir()), f), "sync x", impl.ErrText},
	} {
		before := ownWorld(c.world)
		wantCode(t, what+": WorldFault", impl.WorldFault(c.world), impl.OK)
		wantNotSaid(t, what, impl.StepScript(c.world, c.line), c.code)
		wantNotSaid(t, what+": by the model", modelScriptStep(c.world, c.line), c.code)
		wantSaid(t, what+", alone", impl.RunScript(c.world, c.line), c.world, fmt.Sprintf("! %d\n", c.code))
		mark := fmt.Sprintf("! %d\n", c.code)
		say := func(line string) string { return impl.StepScript(c.world, line).Said }
		wantSaid(t, what+", among others", impl.RunScript(c.world, "stat /\n"+c.line+"\nlist /\nshow\n"+c.line), c.world,
			say("stat /")+"\n"+mark+say("list /")+"\n"+say("show")+mark)
		// Behind a directory more, where there are steps, it may have none.
		text := "stat /\n" + c.line + "\nmkdir /new\n" + c.line + "\nlist /new\nshow\n" + c.line
		if r, want := impl.RunScript(c.world, text), modelScript(c.world, text); !same(r, want) || !strings.Contains(r.Said, "\n"+mark+"ok\n") {
			t.Errorf("%s, among others: %v, not %v", what, r, want)
		}
		if !same(c.world, before) {
			t.Errorf("%s: the world turned", what)
		}
	}
	// The journal is as it was behind the code, and a sync puts another there.
	r := impl.RunScript(spoilt, "crash 0\nmake /b/n\nsync\ncrash 0\nlist /b\n")
	wantSaid(t, "a sync mends it", r, syncOf(t, impl.CallWorld(spoilt, call(impl.CallMake, "/b/n")).World), "! 1\nok\nok\nback\nok a b n\n")
}

func TestHowManyBytesAScriptHas(t *testing.T) {
	w := script(t, newWorld(t, 5), "make /a")
	for _, n := range []int{0, 1, 1199, 1200, 1201, 1202, 2400, 65536, 70000} {
		what := fmt.Sprint(n, " bytes")
		for said, text := range map[string]string{
			"":          strings.Repeat(" ", n),
			"! 5\n":     strings.Repeat("x", n),
			"ok 1100\n": strings.Repeat(" ", max(n-8, 0)) + "stat /a\n",
		} {
			if len(text) != n {
				continue
			}
			switch {
			case n > 1200:
				wantNotSaid(t, what, impl.RunScript(w, text), impl.ErrMany)
			case n == 0:
				wantSaid(t, what, impl.RunScript(w, text), w, "")
			default:
				wantSaid(t, what, impl.RunScript(w, text), w, said)
			}
		}
	}
	// Sixty lines of twenty bytes with their line feeds: all there can be.
	line := strings.Repeat(" ", 12) + "stat /a"
	full := strings.Repeat(line+"\n", 60)
	if len(full) != 1200 {
		t.Fatal(len(full))
	}
	wantSaid(t, "as much as there can be", impl.RunScript(w, full), w, strings.Repeat("ok 1100\n", 60))
	wantNotSaid(t, "a byte more, and a line", impl.RunScript(w, full+" "), impl.ErrMany)
	wantNotSaid(t, "a byte more", impl.RunScript(w, " "+full), impl.ErrMany)
	wantSaid(t, "the last line feed less", impl.RunScript(w, full[:1199]), w, strings.Repeat("ok 1100\n", 60))
}

// A line is what a line feed ends, and what stands behind the last one, if
// anything does.
func TestHowManyLinesAScriptHas(t *testing.T) {
	w := script(t, newWorld(t, 5), "make /a")
	for n := range 70 {
		for line, said := range map[string]string{"": "", " ": "", "stat /a": "ok 1100\n", "show": "/a file 1 0 -\n", "x": "! 5\n"} {
			feeds := strings.Repeat(line+"\n", n)
			what := fmt.Sprintf("%d lines %q", n, line)
			if n > 60 {
				wantNotSaid(t, what, impl.RunScript(w, feeds), impl.ErrMany)
			} else {
				wantSaid(t, what, impl.RunScript(w, feeds), w, strings.Repeat(said, n))
			}
			for _, last := range names(" ", "x", "stat /a", "show") {
				if n+1 > 60 {
					wantNotSaid(t, what+", and one without a line feed", impl.RunScript(w, feeds+last), impl.ErrMany)
					continue
				}
				end := map[string]string{"stat /a": "ok 1100\n", "show": "/a file 1 0 -\n", "x": "! 5\n"}[last]
				wantSaid(t, what+", and one without a line feed", impl.RunScript(w, feeds+last), w, strings.Repeat(said, n)+end)
			}
		}
	}
	wantNotSaid(t, "many line feeds", impl.RunScript(w, strings.Repeat("\n", 1200)), impl.ErrMany)
	// Nothing is done of a script that is too long.
	wantNotSaid(t, "61 lines that do something", impl.RunScript(w, strings.Repeat("sync\n", 61)), impl.ErrMany)
	wantSaid(t, "60 lines that do something", impl.RunScript(w, "mkdir /d\n"+strings.Repeat("sync\n", 59)), script(t, w, "mkdir /d", "sync"), strings.Repeat("ok\n", 60))
}

// Each line that says something says it on a line of its own.
func TestWhatLinesSayInAScript(t *testing.T) {
	w := script(t, newWorld(t, 5), "make /a", "write /a 0 hi")
	tree := "/a file 1 2 hi\n"
	said := map[string]string{"": "", "  ": "", "show": tree, " show ": tree, "read /a 0 9": "ok hi\n", "stat /a": "ok 1102\n", "list /": "ok a\n", "list /a": "no 9\n", "make /a": "no 7\n", "sync x": "! 5\n", "crash 99": "! 3\n"}
	for one, first := range said {
		for other, second := range said {
			for _, end := range names("", "\n", "\n\n", "\n  ") {
				text := one + "\n" + other + end
				wantSaid(t, fmt.Sprintf("%q", text), impl.RunScript(w, text), w, first+second)
			}
		}
	}
}

// feeded is lines with a line feed behind each of them.
func feeded(lines []string) string {
	text := ""
	for _, line := range lines {
		text += line + "\n"
	}
	return text
}

// Scripts one behind the other, by hand: in two parts as in one, with codes and
// without.
func TestCutScriptsByHand(t *testing.T) {
	w := newWorld(t, 5)
	lines := names("mkdir /d", "", "make /d/a", "write /d/a 2 two", "sync", "wink", "link /d/a /b", "show", "crash 99", "rename /b /d/b", "  ", "crash 12", "show", "unlink /d/b", "crash 0", "list /d", "cut /d/a 1", "read /d/a 0 9")
	text := feeded(lines)
	all := impl.RunScript(w, text)
	if want := modelScript(w, text); !same(all, want) || all.Code != impl.OK {
		t.Fatalf("%v, not %v", all, want)
	}
	for at := range len(lines) + 1 {
		first := impl.RunScript(w, feeded(lines[:at]))
		second := impl.RunScript(first.World, feeded(lines[at:]))
		if first.Said+second.Said != all.Said || !same(second.World, all.World) {
			t.Errorf("cut ahead of line %d: %v and %v, not %v", at, first, second, all)
		}
	}
	// Line by line the same, but for the codes.
	now, said := w, ""
	for _, line := range lines {
		r := impl.StepScript(now, line)
		switch {
		case r.Code != impl.OK:
			said += fmt.Sprintf("! %d\n", r.Code)
			continue
		case r.Said != "":
			said += strings.TrimSuffix(r.Said, "\n") + "\n"
		}
		now = r.World
	}
	wantSaid(t, "line by line", all, now, said)
	if !slices.Contains(strings.Split(said, "\n"), "! 3") || !slices.Contains(strings.Split(said, "\n"), "! 5") {
		t.Errorf("no codes in %q", said)
	}
}
