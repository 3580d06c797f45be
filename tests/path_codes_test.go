package tests

import (
	"strings"
	"testing"

	"loop.example/g00295/impl"
)

type textCase struct {
	what string
	text string
	code int64
}

// wrongBytes are the neighbours of a to z and such as are far from them.
func wrongBytes() []byte {
	return []byte{0, 1, 10, ' ', '-', '.', '/', '0', '9', ':', '@', 'A', 'B', 'Y', 'Z', '[', '_', '`', '{', '|', '}', '~', 127, 128, 129, 'a' + 128, 'z' + 128, 254, 255}
}

func nameCases() []textCase {
	cases := []textCase{
		{"no byte", "", impl.ErrText},
		{"1 byte", "a", impl.OK},
		{"the last byte", "z", impl.OK},
		{"2 bytes", "az", impl.OK},
		{"3 bytes", "zaz", impl.OK},
		{"MaxName bytes", "abcd", impl.OK},
		{"one more", "abcde", impl.ErrMany},
		{"many more", strings.Repeat("a", 1000), impl.ErrMany},
		{"as many as a byte counts, and 1", strings.Repeat("a", 257), impl.ErrMany},
		{"as many as two bytes count, and 1", strings.Repeat("a", 65537), impl.ErrMany},
		{"bytes ahead of length, the last byte", "abcdE", impl.ErrText},
		{"bytes ahead of length, the first byte", "Abcde", impl.ErrText},
		{"bytes ahead of length, far behind", strings.Repeat("a", 1000) + "A", impl.ErrText},
		{"a letter of two bytes", "é", impl.ErrText},
		{"a letter of two bytes behind others", "aé", impl.ErrText},
		{"a letter of four bytes", "𝐚", impl.ErrText},
		{"a wide letter", "ａ", impl.ErrText},
		{"a letter whose number ends as that of a", "š", impl.ErrText},
		{"half a letter", "a\xc3", impl.ErrText},
		{"a blank behind", "a ", impl.ErrText},
		{"a blank ahead", " a", impl.ErrText},
		{"a dot", ".", impl.ErrText},
		{"two dots", "..", impl.ErrText},
		{"a / alone", "/", impl.ErrText},
		{"a / ahead", "/a", impl.ErrText},
		{"a / behind", "a/", impl.ErrText},
		{"a / between", "a/b", impl.ErrText},
		{"a byte 0 behind", "a\x00", impl.ErrText},
		{"a line feed behind", "a\n", impl.ErrText},
	}
	for _, b := range wrongBytes() {
		wrong := string([]byte{b})
		for _, name := range []string{wrong, wrong + "a", "a" + wrong, "ab" + wrong + "d", "abc" + wrong, "abcd" + wrong} {
			cases = append(cases, textCase{"a wrong byte", name, impl.ErrText})
		}
	}
	return cases
}

func TestNameFault(t *testing.T) {
	for _, c := range nameCases() {
		wantCode(t, c.what, impl.NameFault(c.text), c.code)
	}
	for b := range 256 {
		want := int64(impl.ErrText)
		if strings.Contains("abcdefghijklmnopqrstuvwxyz", string([]byte{byte(b)})) {
			want = impl.OK
		}
		wantCode(t, "a byte alone", impl.NameFault(string([]byte{byte(b)})), want)
		wantCode(t, "a byte as the last one", impl.NameFault("abc"+string([]byte{byte(b)})), want)
	}
}

func pathCases() []textCase {
	six := "/abcd/efgh/ijkl/mnop/qrst/uvwx"
	return []textCase{
		{"the top", "/", impl.OK},
		{"no byte", "", impl.ErrText},
		{"no / ahead", "a", impl.ErrText},
		{"no / ahead of two names", "a/b", impl.ErrText},
		{"a blank ahead", " /a", impl.ErrText},
		{"a / behind", "/a/", impl.ErrText},
		{"a / behind two names", "/a/b/", impl.ErrText},
		{"a / behind alone", "a/", impl.ErrText},
		{"two / and no name", "//", impl.ErrText},
		{"three / and no name", "///", impl.ErrText},
		{"two / ahead", "//a", impl.ErrText},
		{"two / between", "/a//b", impl.ErrText},
		{"two / behind", "/a//", impl.ErrText},
		{"three / between", "/a///b", impl.ErrText},

		{"MaxPath bytes", six, impl.OK},
		{"one more, in the last name", six + "y", impl.ErrMany},
		{"one more, in the first name", "/z" + six[1:], impl.ErrMany},
		{"one more, a / behind", six + "/", impl.ErrMany},
		{"one more, a / ahead", "/" + six, impl.ErrMany},
		{"many more", strings.Repeat("/a", 3000), impl.ErrMany},
		{"one less", six[:29], impl.OK},
		{"MaxDepth names", "/a/b/c/d/e/f", impl.OK},
		{"one more name", "/a/b/c/d/e/f/g", impl.ErrMany},
		{"all names that go", strings.Repeat("/a", 15), impl.ErrMany},

		{"a name of MaxName bytes", "/abcd", impl.OK},
		{"a name of one more", "/abcde", impl.ErrMany},
		{"the last name of one more", "/a/abcde", impl.ErrMany},
		{"the first name of one more", "/abcde/a", impl.ErrMany},
		{"a name of all bytes", "/" + strings.Repeat("a", 29), impl.ErrMany},
		{"a capital", "/aB", impl.ErrText},
		{"a capital in the last name", "/a/B", impl.ErrText},
		{"a digit", "/a1", impl.ErrText},
		{"a dot", "/a.b", impl.ErrText},
		{"two dots", "/a/..", impl.ErrText},
		{"one dot", "/./a", impl.ErrText},
		{"a blank", "/a b", impl.ErrText},
		{"a blank behind", "/a ", impl.ErrText},
		{"a line feed behind", "/a\n", impl.ErrText},
		{"the other stroke", "\\a", impl.ErrText},
		{"the other stroke between", "/a\\b", impl.ErrText},
		{"a letter of two bytes", "/é", impl.ErrText},
	}
}

// pathsOfSeveral have more than one fault: which one comes first?
func pathsOfSeveral() []textCase {
	long := strings.Repeat("a", 31)
	return []textCase{
		{"bytes ahead of how it begins", long, impl.ErrMany},
		{"bytes ahead of how it ends", "/" + long + "/", impl.ErrMany},
		{"bytes ahead of a wrong byte", "/A" + long, impl.ErrMany},
		{"bytes ahead of an empty name", "//" + long, impl.ErrMany},
		{"many / alone", strings.Repeat("/", 31), impl.ErrMany},
		{"as many as may be / alone", strings.Repeat("/", 30), impl.ErrText},

		{"how it begins ahead of how many", "a/b/c/d/e/f/g/h", impl.ErrText},
		{"how it begins ahead of a long name", "abcde", impl.ErrText},
		{"how it ends ahead of how many", "/a/b/c/d/e/f/g/", impl.ErrText},
		{"how it ends ahead of a long name", "/abcde/", impl.ErrText},
		{"a / behind MaxDepth names", "/a/b/c/d/e/f/", impl.ErrText},

		{"how many ahead of a capital", "/A/b/c/d/e/f/g", impl.ErrMany},
		{"how many ahead of an empty name", "//b/c/d/e/f/g", impl.ErrMany},
		{"how many ahead of an empty name between", "/a/b/c//e/f/g", impl.ErrMany},
		{"how many ahead of the last one's byte", "/a/b/c/d/e/f/G", impl.ErrMany},
		{"an empty name among MaxDepth", "/a/b/c//e/f", impl.ErrText},
		{"an empty name as the first of MaxDepth", "//b/c/d/e/f", impl.ErrText},

		{"name by name: long, then a byte", "/abcde/B", impl.ErrMany},
		{"name by name: a byte, then long", "/B/abcde", impl.ErrText},
		{"name by name: long, then empty", "/abcde//b", impl.ErrMany},
		{"name by name: empty, then long", "//abcde", impl.ErrText},
		{"name by name: good, long, then a byte", "/a/abcde/B", impl.ErrMany},
		{"name by name: good, a byte, then long", "/a/B/abcde", impl.ErrText},
		{"of one name a byte ahead of its length", "/abcdE", impl.ErrText},
		{"of one name a byte ahead of its length, far behind", "/aaaaaaaaaaaaaaaaA", impl.ErrText},
	}
}

func TestCodesOfPaths(t *testing.T) {
	for _, c := range append(pathCases(), pathsOfSeveral()...) {
		split := impl.SplitPath(c.text)
		wantCode(t, c.what+": SplitPath", split.Code, c.code)
		if c.code == impl.OK {
			wantText(t, c.what, impl.JoinPath(split.Names), c.text)
			continue
		}
		wantNoNames(t, c.what+": SplitPath", split, c.code)
		wantNoText(t, c.what+": ParentOf", impl.ParentOf(c.text), c.code)
		wantNoText(t, c.what+": LastOf", impl.LastOf(c.text), c.code)
	}
}

// Every byte of a path that is no / has to be one of a name, wherever it is.
func TestWrongBytesInPaths(t *testing.T) {
	for _, b := range wrongBytes() {
		if b == '/' {
			continue
		}
		wrong := string([]byte{b})
		for _, path := range []string{wrong, wrong + "a", "/" + wrong, "/" + wrong + "a", "/a" + wrong, "/a/" + wrong, "/" + wrong + "/a", "/a/b" + wrong + "/c"} {
			wantNoNames(t, "a wrong byte", impl.SplitPath(path), impl.ErrText)
		}
	}
}

func TestNamesByThemselves(t *testing.T) {
	for _, c := range nameCases() {
		wantText := "/" + c.text
		if c.code != impl.OK {
			wantText = ""
		}
		if r := impl.JoinPath(names(c.text)); r != (impl.TextResult{Code: c.code, Text: wantText}) {
			t.Errorf("%s: JoinPath: %v", c.what, r)
		}
		for _, list := range [][]string{names("a", c.text), names(c.text, "a"), names("a", "b", "c", "d", "e", c.text)} {
			wantCode(t, c.what+": JoinPath", impl.JoinPath(list).Code, c.code)
		}
	}
}

func TestCodesOfNames(t *testing.T) {
	long, wrong := "abcde", "B"
	for _, c := range []struct {
		what  string
		names []string
		code  int64
	}{
		{"MaxDepth names", names("a", "b", "c", "d", "e", "f"), impl.OK},
		{"one more", names("a", "b", "c", "d", "e", "f", "g"), impl.ErrMany},
		{"many more", make([]string, 500), impl.ErrMany},
		{"how many ahead of the first one", names(wrong, "b", "c", "d", "e", "f", "g"), impl.ErrMany},
		{"how many ahead of the last one", names("a", "b", "c", "d", "e", "f", wrong), impl.ErrMany},
		{"how many ahead of an empty one", names("", "b", "c", "d", "e", "f", "g"), impl.ErrMany},
		{"an empty name among MaxDepth", make([]string, 6), impl.ErrText},
		{"one empty name", names(""), impl.ErrText},
		{"an empty name behind", names("a", ""), impl.ErrText},
		{"a path as a name", names("/a"), impl.ErrText},
		{"the top as a name", names("/"), impl.ErrText},
		{"two names in one", names("a/b"), impl.ErrText},
		{"name by name: long, then a byte", names(long, wrong), impl.ErrMany},
		{"name by name: a byte, then long", names(wrong, long), impl.ErrText},
		{"name by name: good, long, then empty", names("a", long, ""), impl.ErrMany},
		{"name by name: good, empty, then long", names("a", "", long), impl.ErrText},
		{"of one name a byte ahead of its length", names("abcdE"), impl.ErrText},
	} {
		r := impl.JoinPath(c.names)
		wantCode(t, c.what, r.Code, c.code)
		if c.code != impl.OK {
			wantNoText(t, c.what, r, c.code)
		}
	}
}

// Where one of the two is no path nothing is below the other, even where a
// path that is like it is.
func TestBelowOfNoPaths(t *testing.T) {
	for _, c := range append(pathCases(), pathsOfSeveral()...) {
		if c.code == impl.OK {
			continue
		}
		wantBelow(t, c.text, c.text, false)
		for path := range soundPaths() {
			wantBelow(t, c.text, path, false)
			wantBelow(t, path, c.text, false)
		}
	}
	wantBelow(t, "/a/b", "/a/", false)
	wantBelow(t, "/a/b", "", false)
	wantBelow(t, "/a/b", "a", false)
	wantBelow(t, "/a/B", "/a", false)
	wantBelow(t, "/a/abcde", "/a", false)
	wantBelow(t, "/a/b/c/d/e/f/g", "/a", false)
	wantBelow(t, "", "/", false)
	wantBelow(t, "//", "/", false)
	wantBelow(t, "/a/", "/", false)
}
