package tests

import (
	"bytes"
	"fmt"
	"math"
	"strings"
	"testing"

	"loop.example/g00295/impl"
)

func wantCalls(t *testing.T, line string, want impl.Call) {
	t.Helper()
	if r := impl.ParseCall(line); !same(r, impl.CallsResult{Calls: []impl.Call{want}}) {
		t.Errorf("ParseCall %q: %v, not %v", line, r, want)
	}
}

func wantNoCall(t *testing.T, line string) {
	t.Helper()
	if r := impl.ParseCall(line); !same(r, impl.CallsResult{Code: impl.ErrText}) {
		t.Errorf("ParseCall %q: %v, not code 5 alone", line, r)
	}
	if modelParse(line).Code != impl.ErrText {
		t.Errorf("%q is a call by the model", line)
	}
}

type lineCase struct {
	line string
	call impl.Call
}

func letters(n int) string {
	return strings.Repeat("qwertyuiopasdfghjklzxcvbnm", n/26+1)[:n]
}

// linesByHand has a line of each kind, and such as are at a bound.
func linesByHand() []lineCase {
	return []lineCase{
		{"make /a", call(impl.CallMake, "/a")},
		{"make /", call(impl.CallMake, "/")},
		{"make " + full6(), call(impl.CallMake, full6())},
		{"mkdir /a/b", call(impl.CallDir, "/a/b")},
		{"write /a 3 abc", write("/a", 3, "abc")},
		{"write /a 0 a", write("/a", 0, "a")},
		{"write / 9999 z", write("/", 9999, "z")},
		{"write /a 10 " + letters(40), write("/a", 10, letters(40))},
		{"write /a 0 write", write("/a", 0, "write")},
		{"read /a 1 2", read("/a", 1, 2)},
		{"read /a 0 0", read("/a", 0, 0)},
		{"read /a 9999 0", read("/a", 9999, 0)},
		{"read /a 0 9999", read("/a", 0, 9999)},
		{"read /a 9999 9999", read("/a", 9999, 9999)},
		{"read /a 1000 101", read("/a", 1000, 101)},
		{"cut /a 0", cut("/a", 0)},
		{"cut /a 32", cut("/a", 32)},
		{"cut " + full6() + " 9999", cut(full6(), 9999)},
		{"unlink /a", call(impl.CallUnlink, "/a")},
		{"rmdir /a", call(impl.CallRemove, "/a")},
		{"link /a /b", link("/a", "/b")},
		{"link /a /a", link("/a", "/a")},
		{"link / /", link("/", "/")},
		{"rename /a /b", rename("/a", "/b")},
		{"rename " + full6() + " " + full6(), rename(full6(), full6())},
		{"stat /a", call(impl.CallStat, "/a")},
		{"stat /", call(impl.CallStat, "/")},
		{"list /", call(impl.CallList, "/")},
		{"list /list", call(impl.CallList, "/list")},
	}
}

func TestLinesByHand(t *testing.T) {
	for _, c := range linesByHand() {
		wantText(t, c.line, impl.CallText(c.call), c.line)
		wantCalls(t, c.line, c.call)
		for _, line := range names(" "+c.line, c.line+" ", strings.ReplaceAll(c.line, " ", "  "), "   "+strings.ReplaceAll(c.line, " ", strings.Repeat(" ", 90))+"   ") {
			wantCalls(t, line, c.call)
		}
	}
	wantText(t, "Data that are empty", impl.CallText(impl.Call{Kind: impl.CallStat, Path: "/a", Data: []byte{}}), "stat /a")
}

// The CallFault comes first, whatever cannot be told.
func TestCallFaultsAheadOfText(t *testing.T) {
	for number := int64(-3); number < 16; number++ {
		for _, path := range names("/a", "", "a", "/A", full6()+"y") {
			c := call(number, path)
			want := codeIf(number < 1 || number > 11, impl.ErrForm)
			if r := impl.CallText(c); want != impl.OK && r != (impl.TextResult{Code: want}) {
				t.Errorf("%v: %v", c, r)
			}
		}
	}
	for _, p := range callParts() {
		for number := int64(1); number < 12; number++ {
			for _, set := range p.set {
				c := call(number, "/A")
				set(&c)
				want := int64(impl.ErrText)
				if !among(p.kinds, number) {
					want = impl.ErrForm
				}
				wantNoText(t, fmt.Sprint(p.what, " of ", c), impl.CallText(c), want)
			}
		}
	}
	for n := range 50 {
		for _, b := range []byte("a\x00A ") {
			c := impl.Call{Kind: impl.CallWrite, Path: "/a", Data: bytes.Repeat([]byte{b}, n)}
			want := firstCode(codeIf(n > 40, impl.ErrMany), codeIf(n == 0 || b != 'a', impl.ErrText))
			if r := impl.CallText(c); r.Code != want || (want == impl.OK) != (r.Text == "write /a 0 "+string(c.Data)) {
				t.Errorf("%d bytes %d: %v, not code %d", n, b, r, want)
			}
			c.Path, c.From = "x", -1
			wantNoText(t, fmt.Sprint(n, " bytes, no path"), impl.CallText(c), firstCode(codeIf(n > 40, impl.ErrMany), impl.ErrText))
			c.Size = 1
			wantNoText(t, fmt.Sprint(n, " bytes and a Size"), impl.CallText(c), impl.ErrForm)
		}
	}
}

// kindsWith are the kinds that have a part.
func kindsWith(letter string) []int64 {
	var all []int64
	for number := int64(1); number < 12; number++ {
		if strings.Contains(callForms[number], letter) {
			all = append(all, number)
		}
	}
	return all
}

// soundCall has a part of each that its kind has.
func soundCall(number int64) impl.Call {
	c := call(number, "/a")
	if among(kindsWith("T"), number) {
		c.To = "/b"
	}
	if among(kindsWith("F"), number) {
		c.From = 5
	}
	if among(kindsWith("S"), number) {
		c.Size = 7
	}
	if among(kindsWith("D"), number) {
		c.Data = []byte("text")
	}
	return c
}

// Each path that there is, as Path and as To of each kind: those that SplitPath
// has a code for are neither told nor read, whichever it is.
func TestPathsInLines(t *testing.T) {
	count := map[int64]int{}
	for _, c := range append(pathCases(), pathsOfSeveral()...) {
		for number := int64(1); number < 12; number++ {
			one, other := soundCall(number), soundCall(number)
			one.Path = c.text
			all := []impl.Call{one}
			if other.To != "" {
				other.To = c.text
				all = append(all, other)
			}
			for _, told := range all {
				line := impl.CallText(told)
				parts := strings.NewReplacer("P", told.Path, "T", told.To, "F", "5", "S", "7", "D", "text").Replace(callForms[number])
				if c.code == impl.OK {
					wantText(t, parts, line, parts)
					wantCalls(t, parts, told)
					count[c.code]++
					continue
				}
				wantNoText(t, parts, line, impl.ErrText)
				// One with a blank or a line feed at its end is another line.
				if text := strings.Trim(c.text, " "); text == c.text || strings.Contains(text, " ") {
					wantNoCall(t, parts)
					count[c.code]++
				}
			}
		}
	}
	if count[impl.OK] < 50 || count[impl.ErrText] < 50 || count[impl.ErrMany] < 50 {
		t.Errorf("paths: %v", count)
	}
}

func TestNumbersTold(t *testing.T) {
	for _, n := range list(math.MinInt64, -1<<32, -10000, -9999, -10, -2, -1, 0, 1, 9, 10, 99, 100, 999, 1000, 1001, 9998, 9999, 10000, 10001, 65536, 99999, 1<<32, 1<<32+1, math.MaxInt64) {
		is := n >= 0 && n <= 9999
		for number := int64(1); number < 12; number++ {
			for what, set := range map[string]func(c *impl.Call){"F": func(c *impl.Call) { c.From = n }, "S": func(c *impl.Call) { c.Size = n }} {
				if !among(kindsWith(what), number) {
					continue
				}
				c := soundCall(number)
				set(&c)
				line := impl.CallText(c)
				if !is {
					wantNoText(t, fmt.Sprint(c), line, impl.ErrText)
					wantNoCall(t, strings.Replace(modelLine(soundCall(number)).Text, map[string]string{"F": "5", "S": "7"}[what], fmt.Sprint(n), 1))
				} else if line != modelLine(c) || line.Code != impl.OK || !strings.Contains(line.Text, fmt.Sprint(" ", n)) {
					t.Errorf("%v: %v", c, line)
				}
			}
		}
	}
	for n := range int64(10000) {
		line := fmt.Sprintf("read /a %d %d", n, 9999-n)
		c := read("/a", n, 9999-n)
		if impl.CallText(c).Text != line || !same(impl.ParseCall(line).Calls, []impl.Call{c}) {
			t.Errorf("%q: %v, %v", line, impl.CallText(c), impl.ParseCall(line))
		}
	}
}

// Each byte in Data, alone, ahead, between and behind.
func TestDataInLines(t *testing.T) {
	for n := range 256 {
		b := string([]byte{byte(n)})
		for _, text := range names(b, b+"ab", "a"+b+"b", "ab"+b, strings.Repeat("a", 39)+b) {
			c, line := write("/a", 3, text), "write /a 3 "+text
			switch {
			case n >= 'a' && n <= 'z':
				wantText(t, line, impl.CallText(c), line)
				wantCalls(t, line, c)
			case n == ' ':
				wantNoText(t, line, impl.CallText(c), impl.ErrText)
				if trimmed := strings.Trim(text, " "); trimmed == "" || strings.Contains(trimmed, " ") {
					wantNoCall(t, line)
				} else {
					wantCalls(t, line, write("/a", 3, trimmed))
				}
			default:
				wantNoText(t, line, impl.CallText(c), impl.ErrText)
				wantNoCall(t, line)
			}
		}
	}
	for n := range 60 {
		line := "write /a 3 " + letters(n)
		switch {
		case n == 0 || n > 40:
			wantNoCall(t, line)
		default:
			wantCalls(t, line, write("/a", 3, letters(n)))
		}
	}
	wantNoCall(t, "write /a 3 "+letters(70000))
	for number := int64(1); number < 12; number++ {
		c := soundCall(number)
		c.Data = nil
		if number == impl.CallWrite {
			wantNoText(t, "no Data to write", impl.CallText(c), impl.ErrText)
			continue
		}
		wantCode(t, fmt.Sprint(c), impl.CallText(c).Code, impl.OK)
		c.Data = []byte("a")
		wantNoText(t, fmt.Sprint(c), impl.CallText(c), impl.ErrForm)
	}
}

// The words of each kind, one too few, one too many, in another order.
func TestHowManyWordsALineHas(t *testing.T) {
	for number, form := range callForms {
		words := strings.Split(modelLine(soundCall(number)).Text, " ")
		wantCalls(t, strings.Join(words, " "), soundCall(number))
		for n := range words {
			wantNoCall(t, strings.Join(words[:n], " "))
			wantNoCall(t, strings.Join(words[n+1:], " "))
			wantNoCall(t, strings.Join(append(append([]string{}, words[:n]...), words[n+1:]...), " "))
			if n > 0 {
				wantNoCall(t, strings.Join(append(append(append([]string{}, words[n]), words[:n]...), words[n+1:]...), " "))
			}
		}
		for _, more := range names("/c", "0", "a", "make", "-", "\t", "x y") {
			wantNoCall(t, strings.Join(words, " ")+" "+more)
			wantNoCall(t, more+" "+strings.Join(words, " "))
		}
		word, rest, _ := strings.Cut(strings.Join(words, " "), " ")
		for _, wrong := range []string{strings.ToUpper(word), strings.ToUpper(word[:1]) + word[1:], word[:len(word)-1], word + "s", word + "\t", "\t" + word, "", word + word, "\"" + word + "\"", "/" + word, word + "\x00"} {
			wantNoCall(t, wrong+" "+rest)
		}
		if strings.Contains(form, "T") {
			wantCalls(t, word+" /b /a", impl.Call{Kind: number, Path: "/b", To: "/a"})
		}
	}
	for _, line := range names("", " ", "   ", "wink", "wink /a", "sync", "crash 0", "show", "remove /a", "dir /a", "open /a", "rm /a", "ls /", "1 /a", "make/a", "/a", "make /a/b /c", "write /a abc 3", "write /a 3", "write /a abc", "read /a 3", "read /a 3 abc", "cut /a", "cut 3 /a", "stat", "list", "touch /a", "mk /a", "rename /a", "rename /a b", "link a /b") {
		wantNoCall(t, line)
	}
}

// What is a number, and what is none, wherever one stands.
func TestNumbersInLines(t *testing.T) {
	for word, n := range map[string]int64{"0": 0, "00": 0, "000": 0, "0000": 0, "1": 1, "01": 1, "0001": 1, "9": 9, "10": 10, "010": 10, "0010": 10, "077": 77, "0099": 99, "100": 100, "999": 999, "0999": 999, "1000": 1000, "9999": 9999} {
		wantCalls(t, "read /a "+word+" 7", read("/a", n, 7))
		wantCalls(t, "read /a 7 "+word, read("/a", 7, n))
		wantCalls(t, "write /a "+word+" x", write("/a", n, "x"))
		wantCalls(t, "cut /a "+word, cut("/a", n))
	}
	for _, word := range names("00000", "00001", "01000", "09999", "10000", "12345", "99999", "4294967296", "18446744073709551616", strings.Repeat("0", 70000),
		"-1", "+1", "-0", "+0", "-", "+", "--1", "1-", "1+", "1_0", "_1", "1.0", "1.", ".1", "1e3", "0x1", "0x", "0b1", "0o7", "1a", "a1", "a", "x", "O", "1,0", "1\t", "\t1", "1\x00", "١", "１", "²", "½", "NaN", "Inf", "1\xff", "'1'", "/", ":", "0/", "0:", "/0") {
		for _, line := range names("read /a "+word+" 7", "read /a 7 "+word, "write /a "+word+" x", "cut /a "+word) {
			wantNoCall(t, line)
		}
	}
	// An empty word is none at all.
	wantNoCall(t, "read /a  7")
	wantNoCall(t, "read /a 7 ")
	wantNoCall(t, "write /a  x")
	wantNoCall(t, "cut /a ")
	for n := range 256 {
		if n == 32 || n >= '0' && n <= '9' {
			continue
		}
		for _, word := range names("?", "1?", "?1", "1?1") {
			wantNoCall(t, "cut /a "+strings.ReplaceAll(word, "?", string([]byte{byte(n)})))
		}
	}
}

// A byte 10 anywhere in a line, at its end too, and also where blanks stand.
func TestLineFeedsInLines(t *testing.T) {
	for _, c := range linesByHand() {
		for at := range len(c.line) + 1 {
			for _, feed := range names("\n", " \n", "\n ", " \n ", "\n\n", "\r\n") {
				wantNoCall(t, c.line[:at]+feed+c.line[at:])
			}
		}
		wantNoCall(t, c.line+strings.Repeat(" ", 2000)+"\n")
		wantNoCall(t, c.line+"\n"+c.line)
		wantNoCall(t, c.line+"\n#")
	}
	wantNoCall(t, "\n")
	wantNoCall(t, "make\n/a")
}

// Each set of parts that may not be told, of each kind: one that the kind does
// not have comes first.
func TestPartsTurned(t *testing.T) {
	for number := int64(1); number < 12; number++ {
		for set := range 1 << 5 {
			c := soundCall(number)
			code := int64(impl.OK)
			for i, turn := range []struct {
				letter string
				do     func()
			}{
				{"P", func() { c.Path = "/a/" }},
				{"T", func() { c.To = "b" }},
				{"F", func() { c.From = 10000 }},
				{"S", func() { c.Size = -1 }},
				{"D", func() { c.Data = []byte("tExt") }},
			} {
				if set>>i&1 == 0 {
					continue
				}
				turn.do()
				if !strings.Contains(callForms[number], turn.letter) {
					code = impl.ErrForm
				}
				code = firstCode(code, impl.ErrText)
			}
			r := impl.CallText(c)
			if r.Code != code || r != modelLine(c) {
				t.Errorf("kind %d, set %b: %v, not code %d", number, set, r, code)
			}
		}
	}
}
