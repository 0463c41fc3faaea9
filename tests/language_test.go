package tests

import (
	"bytes"
	"go/ast"
	"go/format"
	"go/parser"
	"go/token"
	"os"
	"path/filepath"
	"slices"
	"strings"
	"testing"
)

var allowedImports = []string{"bytes", "cmp", "container/heap", "errors", "iter", "maps", "math", "math/bits", "slices", "sort", "strconv", "strings", "sync", "sync/atomic", "unicode", "unicode/utf8"}

const mostLines = 60

// TestLanguage holds what of the language's rules a look at the text can tell: imports, layout, directives, the length of functions, no maps or functions at package level.
func TestLanguage(t *testing.T) {
	files, err := filepath.Glob("../impl/*")
	if err != nil || len(files) == 0 {
		t.Fatal("no files", err)
	}
	for _, file := range files {
		text, err := os.ReadFile(file)
		if err != nil {
			t.Fatal(err)
		}
		if !strings.HasSuffix(file, ".go") || strings.HasSuffix(file, "_test.go") {
			t.Errorf("%s: only files of the program stand here", file)
			continue
		}
		if pretty, err := format.Source(text); err != nil || !bytes.Equal(pretty, text) {
			t.Errorf("%s: not gofmt's layout (%v)", file, err)
		}
		if bytes.Contains(text, []byte("//go:")) || bytes.Contains(text, []byte("// +build")) {
			t.Errorf("%s: a line for the compiler", file)
		}
		lookAtFile(t, file, text)
	}
}

func lookAtFile(t *testing.T, file string, text []byte) {
	fset := token.NewFileSet()
	f, err := parser.ParseFile(fset, file, text, 0)
	if err != nil {
		t.Fatal(err)
	}
	for _, i := range f.Imports {
		if path := strings.Trim(i.Path.Value, `"`); !slices.Contains(allowedImports, path) {
			t.Errorf("%s imports %s", file, path)
		}
	}
	for _, d := range f.Decls {
		switch x := d.(type) {
		case *ast.FuncDecl:
			if n := fset.Position(x.End()).Line - fset.Position(x.Pos()).Line + 1; n > mostLines {
				t.Errorf("%s: %s has %d lines", file, x.Name.Name, n)
			}
		case *ast.GenDecl:
			if x.Tok == token.VAR {
				lookAtVariables(t, file, x)
			}
		}
	}
}

func lookAtVariables(t *testing.T, file string, d *ast.GenDecl) {
	for _, s := range d.Specs {
		v := s.(*ast.ValueSpec)
		if len(v.Values) != len(v.Names) {
			t.Errorf("%s: %s has no value of its own", file, v.Names[0].Name)
		}
		ast.Inspect(v, func(n ast.Node) bool {
			switch n.(type) {
			case *ast.MapType, *ast.FuncType:
				t.Errorf("%s: %s holds a map or a function", file, v.Names[0].Name)
			}
			return true
		})
	}
}
