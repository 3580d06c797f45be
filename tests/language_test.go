package tests

import (
	"bytes"
	"go/ast"
	"go/format"
	"go/parser"
	"go/token"
	"os"
	"path/filepath"
	"slices"
	"strings"
	"testing"
)

// What the program may import, and how long a function may be.
var allowedImports = []string{"bytes", "cmp", "container/heap", "errors", "iter", "maps", "math", "math/bits", "slices", "sort", "strconv", "strings", "sync", "sync/atomic", "unicode", "unicode/utf8"}

const maxLines = 60

func TestProgramKeepsToTheLanguage(t *testing.T) {
	files, err := os.ReadDir("../impl")
	if err != nil || len(files) == 0 {
		t.Fatal("no program", err)
	}
	for _, f := range files {
		if f.IsDir() || !strings.HasSuffix(f.Name(), ".go") {
			t.Errorf("%s: no Go file", f.Name())
			continue
		}
		text, err := os.ReadFile(filepath.Join("../impl", f.Name()))
		if err != nil {
			t.Fatal(err)
		}
		checkLayout(t, f.Name(), text)
		checkParts(t, f.Name(), text)
	}
}

func checkLayout(t *testing.T, name string, text []byte) {
	laid, err := format.Source(text)
	if err != nil || !bytes.Equal(laid, text) {
		t.Errorf("%s: not in gofmt's layout (%v)", name, err)
	}
	for _, line := range strings.Split(string(text), "\n") {
		if strings.HasPrefix(line, "//go:") || strings.HasPrefix(line, "// +build") {
			t.Errorf("%s: %s", name, line)
		}
	}
}

func checkParts(t *testing.T, name string, text []byte) {
	fset := token.NewFileSet()
	file, err := parser.ParseFile(fset, name, text, 0)
	if err != nil {
		t.Fatal(err)
	}
	for _, i := range file.Imports {
		if !slices.Contains(allowedImports, strings.Trim(i.Path.Value, `"`)) {
			t.Errorf("%s: imports %s", name, i.Path.Value)
		}
	}
	for _, d := range file.Decls {
		if f, ok := d.(*ast.FuncDecl); ok {
			lines := fset.Position(f.End()).Line - fset.Position(f.Pos()).Line + 1
			if lines > maxLines {
				t.Errorf("%s: %s has %d lines", name, f.Name.Name, lines)
			}
			if !looksAtArguments(f) {
				t.Errorf("%s: %s looks at nothing that it is told", name, f.Name.Name)
			}
		}
	}
}

// looksAtArguments is false of a body that is not built yet: it names none of
// what its function is told.
func looksAtArguments(f *ast.FuncDecl) bool {
	told := map[string]bool{}
	for _, field := range f.Type.Params.List {
		for _, name := range field.Names {
			told[name.Name] = true
		}
	}
	found := len(told) == 0
	ast.Inspect(f.Body, func(n ast.Node) bool {
		if id, is := n.(*ast.Ident); is && told[id.Name] {
			found = true
		}
		return true
	})
	return found
}
