package tests

import (
	"bytes"
	"go/ast"
	"go/format"
	"go/parser"
	"go/token"
	"os"
	"path/filepath"
	"strings"
	"testing"
)

const mayBeImported = " bytes cmp container/heap errors iter maps math math/bits slices sort strconv strings sync sync/atomic unicode unicode/utf8 "

const longestFunction = 60

// The rules of the program's language that can be told from its text.
func TestLanguage(t *testing.T) {
	files, err := filepath.Glob("../impl/*")
	if err != nil || len(files) == 0 {
		t.Fatal("no program", err)
	}
	for _, name := range files {
		if !strings.HasSuffix(name, ".go") {
			t.Error("not a Go file:", name)
			continue
		}
		text, err := os.ReadFile(name)
		if err != nil {
			t.Fatal(err)
		}
		if laid, err := format.Source(text); err != nil || !bytes.Equal(laid, text) {
			t.Error("not in gofmt's layout:", name, err)
		}
		if bytes.Contains(text, []byte("//go:")) || bytes.Contains(text, []byte("// +build")) {
			t.Error("a line for the compiler:", name)
		}
		fset := token.NewFileSet()
		f, err := parser.ParseFile(fset, name, text, 0)
		if err != nil {
			t.Fatal(err)
		}
		for _, i := range f.Imports {
			if path := strings.Trim(i.Path.Value, `"`); !strings.Contains(mayBeImported, " "+path+" ") {
				t.Error("not to be imported:", name, path)
			}
		}
		for _, d := range f.Decls {
			if x, ok := d.(*ast.FuncDecl); ok && fset.Position(x.End()).Line-fset.Position(x.Pos()).Line >= longestFunction {
				t.Error("too long:", name, x.Name.Name)
			}
		}
	}
}
