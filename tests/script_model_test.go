package tests

import (
	"fmt"
	"regexp"
	"slices"
	"strconv"
	"strings"
	"testing"

	"loop.example/g00295/impl"
)

// callForms are the lines of calls: P is the Path, T is To, F is From, S is the
// Size and D the Data.
var callForms = map[int64]string{
	impl.CallMake:   "make P",
	impl.CallDir:    "mkdir P",
	impl.CallWrite:  "write P F D",
	impl.CallRead:   "read P F S",
	impl.CallCut:    "cut P S",
	impl.CallUnlink: "unlink P",
	impl.CallRemove: "rmdir P",
	impl.CallLink:   "link P T",
	impl.CallRename: "rename P T",
	impl.CallStat:   "stat P",
	impl.CallList:   "list P",
}

// lineForm is what fits all lines of a form, with a group for each of its
// parts.
func lineForm(form string) *regexp.Regexp {
	path := `(/|(?:/[a-z]{1,4}){1,6})`
	parts := strings.NewReplacer(" ", " +", "P", path, "T", path, "F", "([0-9]{1,4})", "S", "([0-9]{1,4})", "D", "([a-z]{1,40})")
	return regexp.MustCompile(`\A *` + parts.Replace(form) + ` *\z`)
}

var (
	blankForm = regexp.MustCompile(`\A *\z`)
	syncForm  = lineForm("sync")
	showForm  = lineForm("show")
	crashForm = lineForm("crash S")
	formsRead = map[int64]*regexp.Regexp{}
)

func init() {
	for number, form := range callForms {
		formsRead[number] = lineForm(form)
	}
}

// modelParse is ParseCall by what fits a line.
func modelParse(line string) impl.CallsResult {
	for number, form := range formsRead {
		told := form.FindStringSubmatch(line)
		if told == nil {
			continue
		}
		c := impl.Call{Kind: number}
		for i, letter := range strings.Fields(callForms[number])[1:] {
			n, _ := strconv.Atoi(told[1+i])
			switch letter {
			case "P":
				c.Path = told[1+i]
			case "T":
				c.To = told[1+i]
			case "F":
				c.From = int64(n)
			case "S":
				c.Size = int64(n)
			case "D":
				c.Data = []byte(told[1+i])
			}
		}
		return impl.CallsResult{Calls: []impl.Call{c}}
	}
	return impl.CallsResult{Code: impl.ErrText}
}

func isNoPath(path string) bool {
	_, code := modelSplit(path)
	return code != impl.OK
}

// modelLine is CallText by the form of the kind.
func modelLine(c impl.Call) impl.TextResult {
	if code := impl.CallFault(c); code != impl.OK {
		return impl.TextResult{Code: code}
	}
	form := callForms[c.Kind]
	other := strings.ContainsFunc(string(c.Data), func(r rune) bool { return r < 'a' || r > 'z' })
	if isNoPath(c.Path) || strings.Contains(form, "T") && isNoPath(c.To) || other ||
		c.From < 0 || c.From > 9999 || c.Size < 0 || c.Size > 9999 || strings.Contains(form, "D") && len(c.Data) == 0 {
		return impl.TextResult{Code: impl.ErrText}
	}
	parts := strings.NewReplacer("P", c.Path, "T", c.To, "F", fmt.Sprint(c.From), "S", fmt.Sprint(c.Size), "D", string(c.Data))
	return impl.TextResult{Text: parts.Replace(form)}
}

// modelSays is what stands behind a call that has no code.
func modelSays(c impl.Call, told impl.CallResult) string {
	switch {
	case told.Reply != impl.OK:
		return fmt.Sprint("no ", told.Reply)
	case c.Kind == impl.CallStat:
		return fmt.Sprint("ok ", told.Value)
	case c.Kind == impl.CallRead:
		line := modelLines([]impl.Item{{Kind: impl.KindFile, Bytes: told.Bytes}})
		return "ok" + strings.TrimSuffix(line[strings.LastIndex(line, " "):], "\n")
	}
	said := "ok"
	for _, name := range told.Names {
		said += " " + name
	}
	return said
}

func saidOf(r impl.WorldResult, said string) impl.ScriptResult {
	if r.Code != impl.OK {
		return impl.ScriptResult{Code: r.Code}
	}
	return impl.ScriptResult{World: r.World, Said: said}
}

// modelScriptStep is StepScript by the models of the layers below.
func modelScriptStep(w impl.World, line string) impl.ScriptResult {
	if code := modelWorld(w); code != impl.OK {
		return impl.ScriptResult{Code: code}
	}
	told := crashForm.FindStringSubmatch(line)
	switch {
	case blankForm.MatchString(line):
		return impl.ScriptResult{World: w}
	case syncForm.MatchString(line):
		return saidOf(modelWorldSync(w), "ok")
	case showForm.MatchString(line):
		return impl.ScriptResult{World: w, Said: modelLines(modelItems(w.Live))}
	case told != nil:
		n, _ := strconv.Atoi(told[1])
		d := modelCrashSync(w, int64(n), repeatedPicks(50))
		if d.Code != impl.OK {
			return impl.ScriptResult{Code: d.Code}
		}
		return saidOf(modelMountDisk(d.Disk), "back")
	}
	c := modelParse(line)
	if c.Code != impl.OK {
		return impl.ScriptResult{Code: c.Code}
	}
	r := modelWorldCall(w, c.Calls[0])
	return saidOf(r, modelSays(c.Calls[0], r.Call))
}

// modelScript is RunScript byte by byte.
func modelScript(w impl.World, text string) impl.ScriptResult {
	most, line := 0, ""
	var lines []string
	for i := range len(text) {
		if text[i] == 10 {
			lines, line, most = append(lines, line), "", most+1
		} else {
			line += text[i : i+1]
		}
	}
	if line != "" {
		lines, most = append(lines, line), most+1
	}
	if code := firstCode(modelWorld(w), codeIf(len(text) > 1200 || most > 60, impl.ErrMany)); code != impl.OK {
		return impl.ScriptResult{Code: code}
	}
	all := impl.ScriptResult{World: w}
	for _, line := range lines {
		r := modelScriptStep(all.World, line)
		switch {
		case r.Code != impl.OK:
			all.Said += fmt.Sprintf("! %d\n", r.Code)
			continue
		case r.Said != "" && r.Said[len(r.Said)-1] != 10:
			r.Said += "\n"
		}
		all.World, all.Said = r.World, all.Said+r.Said
	}
	return all
}

// diceTold is a call that CallText tells, of any kind; most of what it asks for
// can be had.
func diceTold(x *dice, paths []string) impl.Call {
	for {
		c := diceCall(x, paths)
		if c.Kind == impl.CallWrite {
			c.Data = []byte(strings.Repeat("?", int(1+x.below(list(3, 9, 40)[x.below(3)]))))
			for i := range c.Data {
				c.Data[i] = 'a' + byte(x.below(26))
			}
			c.From = list(0, x.below(9), x.below(33), x.below(10000))[x.below(4)]
		}
		if x.below(30) == 0 && c.Kind == impl.CallRead {
			c.From, c.Size = x.below(10000), x.below(10000)
		}
		if modelLine(c).Code == impl.OK {
			return c
		}
	}
}

// diceBlanks has the words of a line as they are, with blanks and noughts more.
func diceBlanks(x *dice, line string) string {
	words := strings.Split(line, " ")
	for i := range words {
		if isNumberWord(words[i]) {
			words[i] = strings.Repeat("0", int(x.below(int64(5-len(words[i]))))) + words[i]
		}
		words[i] = strings.Repeat(" ", int(x.below(2)*x.below(3))) + words[i] + strings.Repeat(" ", int(x.below(2)*x.below(3)))
	}
	return strings.Join(words, " ")
}

func isNumberWord(word string) bool {
	return word != "" && word[0] >= '0' && word[0] <= '9'
}

// diceSpoilt turns one byte of a line, takes one away, or sets one in.
func diceSpoilt(x *dice, line string) string {
	at := int(x.below(int64(len(line) + 1)))
	set := []byte(" \t\r/a09z{`-+AZ.\x00\xff")[x.below(17)]
	switch x.below(3) {
	case 0:
		return line[:at] + string([]byte{set}) + line[at:]
	case 1:
		return line[:at] + line[min(at+1, len(line)):]
	}
	return line[:at] + string([]byte{set}) + line[min(at+1, len(line)):]
}

// diceLine is a line without a line feed. Its call is the better of two: one
// that comes to something, if one does.
func diceLine(x *dice, w impl.World) string {
	steps := int64(len(impl.PlanSync(w.Disk, w.Live).Steps))
	c := diceTold(x, modelPaths(w.Live))
	if impl.CallWorld(w, c).Call.Reply != impl.OK {
		c = diceTold(x, modelPaths(w.Live))
	}
	line := modelLine(c).Text
	switch x.below(24) {
	case 0, 1:
		line = "sync"
	case 2, 3:
		line = fmt.Sprint("crash ", x.below(steps+1))
	case 4:
		line = fmt.Sprint("crash ", x.below(2)*(steps+1)+x.below(60))
	case 5, 6:
		line = "show"
	case 7:
		return strings.Repeat(" ", int(x.below(4)))
	case 8:
		return names("wink", "sync 1", "crash", "crash a", "crash 00000", "show /", "read /a 0", "write /a 0", "list", "ok", "Sync")[x.below(11)]
	case 9:
		return diceSpoilt(x, line)
	case 10, 11, 12:
		return diceBlanks(x, line)
	}
	return line
}

// diceScript is lines, and mostly goes on in the worlds that the lines ahead
// leave, so that what it asks for can be had.
func diceScript(x *dice, w impl.World, most int64) string {
	text := ""
	for range x.below(most + 1) {
		line := diceLine(x, w)
		if r := impl.StepScript(w, line); r.Code == impl.OK {
			w = r.World
		}
		text += line + "\n"
	}
	if x.below(4) == 0 {
		text += diceLine(x, w)
	}
	return text
}

// Calls by dice of all kinds: the line of a call is read back, and told again.
func TestCallsReadBack(t *testing.T) {
	x := dice(161)
	var count [12]int
	paths := names("/", "/a", "/b", "/b/a", "/abcd/efgh/ijkl", full6())
	for range 20000 {
		c := diceTold(&x, paths)
		count[c.Kind]++
		line := impl.CallText(c)
		if line != modelLine(c) || line.Code != impl.OK {
			t.Fatalf("CallText %v: %v, not %v", c, line, modelLine(c))
		}
		for _, text := range names(line.Text, diceBlanks(&x, line.Text)) {
			r := impl.ParseCall(text)
			if !same(r, impl.CallsResult{Calls: []impl.Call{c}}) {
				t.Fatalf("ParseCall %q: %v, not %v", text, r, c)
			}
			wantText(t, text, impl.CallText(r.Calls[0]), line.Text)
		}
	}
	for number := 1; number < 12; number++ {
		if count[number] < 500 {
			t.Errorf("kind %d came %d times", number, count[number])
		}
	}
}

// Whatever a line is: what is read of it is a call that is told, and read again.
func TestLinesReadAgainstModel(t *testing.T) {
	x := dice(162)
	var count [11]int
	for range 40000 {
		line := modelLine(diceTold(&x, names("/a", "/b/a", full6()))).Text
		for range 1 + x.below(3) {
			line = diceSpoilt(&x, line)
		}
		if x.below(20) == 0 {
			at := x.below(int64(len(line) + 1))
			line = line[:at] + "\n" + line[at:]
		}
		r := impl.ParseCall(line)
		if !same(r, modelParse(line)) {
			t.Fatalf("ParseCall %q: %v, not %v", line, r, modelParse(line))
		}
		count[r.Code]++
		if r.Code != impl.OK {
			continue
		}
		wantCode(t, line, impl.CallFault(r.Calls[0]), impl.OK)
		again := impl.CallText(r.Calls[0])
		if again != modelLine(r.Calls[0]) || !same(impl.ParseCall(again.Text), r) {
			t.Errorf("%q: %v is told as %v", line, r.Calls[0], again)
		}
	}
	wantCounts(t, count, impl.OK, impl.ErrText)
}

// Calls with parts that may not be told, and with parts that their kinds do not
// have.
func TestCallsToldAgainstModel(t *testing.T) {
	x := dice(163)
	var count [11]int
	ways := names("/", "/a", "/a/b", full6(), full6()+"y", "/a/b/c/d/e/f/g", "", "a", "/a/", "/A", "/a b", "/a\n", "/abcde", "/a /b")
	for range 40000 {
		c := diceTold(&x, names("/a", "/b/a"))
		for range x.below(3) {
			switch x.below(6) {
			case 0:
				c.Path = ways[x.below(int64(len(ways)))]
			case 1:
				c.To = ways[x.below(int64(len(ways)))]
			case 2:
				c.From = list(-1, 0, 1, 9999, 10000, -9999, 1<<32)[x.below(7)]
			case 3:
				c.Size = list(-1, 0, 1, 9999, 10000, -9999, 1<<32)[x.below(7)]
			case 4:
				c.Data = diceText(&x, x.below(90))
			case 5:
				c.Kind = x.below(13)
			}
		}
		r := impl.CallText(c)
		if r != modelLine(c) {
			t.Fatalf("CallText %v: %v, not %v", c, r, modelLine(c))
		}
		count[r.Code]++
		if r.Code == impl.OK && !same(impl.ParseCall(r.Text), impl.CallsResult{Calls: []impl.Call{c}}) {
			t.Errorf("%v is not read back from %q", c, r.Text)
		}
	}
	wantCounts(t, count, impl.OK, impl.ErrForm, impl.ErrMany, impl.ErrText)
}

// Words by dice: blanks go, and all else stays in its order.
func TestWordsAgainstModel(t *testing.T) {
	x := dice(164)
	for range 20000 {
		line := make([]byte, x.below(30))
		for i := range line {
			line[i] = []byte("    ab/1\t\n\xa0\xff")[x.below(12)]
		}
		r := impl.WordsOf(string(line))
		want := slices.DeleteFunc(regexp.MustCompile(`\x20+`).Split(string(line), -1), func(word string) bool { return word == "" })
		if !same(r, impl.WordsResult{Words: want}) {
			t.Fatalf("WordsOf %q: %q, not %q", line, r.Words, want)
		}
	}
}

// Rows of lines in worlds from new ones on, and in such as did not come of a
// new one.
func TestScriptLinesAgainstModel(t *testing.T) {
	x := dice(165)
	var count [11]int
	said := map[string]int{}
	for row := range 250 {
		w := newWorld(t, []int64{1 + x.below(59900), 59990, 59999, 1}[x.below(4)])
		if row%3 == 0 {
			w = diceWorld(&x)
			w.Disk = withOldJournal(w.Disk, row)
		}
		for range 40 {
			line := diceLine(&x, w)
			r, want := impl.StepScript(w, line), modelScriptStep(w, line)
			if !same(r, want) {
				t.Fatalf("row %d, %q: %v, not %v, in %v", row, line, r, want, w)
			}
			count[r.Code]++
			if r.Code != impl.OK {
				continue
			}
			word, _, _ := strings.Cut(strings.TrimLeft(line, " "), " ")
			answer, _, more := strings.Cut(r.Said, " ")
			said[fmt.Sprint(word, " ", answer, " ", more)]++
			wantCode(t, line, impl.WorldFault(r.World), impl.OK)
			w = r.World
		}
	}
	wantCounts(t, count, impl.OK, impl.ErrRange, impl.ErrText, impl.ErrFull)
	for _, what := range names("sync ok false", "crash back false", "read ok true", "stat ok true", "list ok true", "list ok false", "make ok false", "make no true", "mkdir ok false", "write ok false", "cut ok false", "unlink ok false", "rmdir ok false", "link ok false", "rename ok false", "rename no true") {
		if said[what] < 20 {
			t.Errorf("%q came %d times: %v", what, said[what], said)
		}
	}
}

// Scripts by dice, as they are and cut behind each of their line feeds.
func TestScriptsInTwoParts(t *testing.T) {
	x := dice(166)
	var cuts, faults, syncs, backs int
	for row := range 220 {
		w := newWorld(t, []int64{1 + x.below(59900), 59999, 1}[x.below(3)])
		if row%4 == 0 {
			w = diceWorld(&x)
		}
		text := diceScript(&x, w, list(4, 12, 30)[x.below(3)])
		all := impl.RunScript(w, text)
		if want := modelScript(w, text); !same(all, want) {
			t.Fatalf("row %d: %q: %v, not %v, in %v", row, text, all, want, w)
		}
		if all.Code != impl.OK {
			continue
		}
		faults += strings.Count(all.Said, "! ")
		syncs += strings.Count(text, "sync\n")
		backs += strings.Count(all.Said, "back\n")
		for at := range len(text) {
			if text[at] != '\n' {
				continue
			}
			first := impl.RunScript(w, text[:at+1])
			second := impl.RunScript(first.World, text[at+1:])
			cuts++
			if first.Code != impl.OK || second.Code != impl.OK || first.Said+second.Said != all.Said || !same(second.World, all.World) {
				t.Fatalf("row %d: %q, cut at %d: %v and %v, not %v", row, text, at, first, second, all)
			}
		}
	}
	if cuts < 1000 || faults < 100 || syncs < 50 || backs < 50 {
		t.Errorf("%d cuts, %d codes, %d syncs, %d crashes", cuts, faults, syncs, backs)
	}
}
