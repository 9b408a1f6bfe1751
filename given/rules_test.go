package given

import (
	"bytes"
	"go/ast"
	"go/format"
	"go/parser"
	"go/token"
	"io/fs"
	"os"
	"path/filepath"
	"strconv"
	"strings"
	"testing"
)

const allowed = " bytes cmp container/heap errors iter maps math math/bits slices sort strconv strings sync sync/atomic unicode unicode/utf8 "

const longest = 60 // lines of a function

// TestRules looks at every Go file of the program for what the language leaves out: other imports, directives, layouts that are not gofmt's, long functions.
func TestRules(t *testing.T) {
	seen := 0
	err := filepath.WalkDir("..", func(path string, d fs.DirEntry, err error) error {
		if err != nil {
			return err
		}
		if d.IsDir() && (d.Name() == "sharedtests" || d.Name() == ".git") {
			return fs.SkipDir
		}
		if strings.HasSuffix(path, ".go") && !strings.HasSuffix(path, "_test.go") {
			seen++
			checkFile(t, path)
		}
		return nil
	})
	if err != nil || seen < 22 {
		t.Error(seen, err)
	}
}

func checkFile(t *testing.T, path string) {
	text, err := os.ReadFile(path)
	if err != nil {
		t.Fatal(err)
	}
	if laid, err := format.Source(text); err != nil || !bytes.Equal(laid, text) {
		t.Error(path, "is not as gofmt lays it out:", err)
	}
	set := token.NewFileSet()
	file, err := parser.ParseFile(set, path, text, parser.ParseComments)
	if err != nil {
		t.Fatal(err)
	}
	for _, i := range file.Imports {
		name, _ := strconv.Unquote(i.Path.Value)
		if !strings.HasPrefix(name, "demon/") && !strings.Contains(allowed, " "+name+" ") {
			t.Error(path, "imports", name)
		}
	}
	for _, group := range file.Comments {
		for _, c := range group.List {
			if strings.HasPrefix(c.Text, "//go:") || strings.HasPrefix(c.Text, "// +build") {
				t.Error(path, c.Text)
			}
		}
	}
	for _, d := range file.Decls {
		if f, ok := d.(*ast.FuncDecl); ok && set.Position(f.End()).Line-set.Position(f.Pos()).Line >= longest {
			t.Error(path, f.Name.Name, "is long")
		}
	}
}
