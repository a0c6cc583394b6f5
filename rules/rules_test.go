// Package rules holds the code of the whole module against the rules of shared/LANGUAGE.md that a look at the text can tell.
package rules

import (
	"bytes"
	"go/ast"
	"go/format"
	"go/parser"
	"go/token"
	"io/fs"
	"os"
	"path/filepath"
	"slices"
	"strconv"
	"strings"
	"testing"
)

const mostLines = 60 // of a function

var library = []string{"bytes", "cmp", "container/heap", "errors", "iter", "maps", "math", "math/bits", "slices", "sort", "strconv", "strings", "sync", "sync/atomic", "unicode", "unicode/utf8"}

// layers is the layers' packages, each behind those that it may call.
var layers = []string{"api", "wire", "fixed", "single", "nat", "pool", "queue", "rank", "vec", "norm", "rope", "soft", "act", "vocab", "stream", "guide", "shape", "file", "kv", "attend", "block", "model", "dist", "tape", "couple", "spec", "count", "admit", "engine", "fleet", "desk"}

// source is a file of the program.
type source struct {
	path    string
	text    []byte
	files   *token.FileSet
	content *ast.File
}

// program is all Go files of the module but tests; the tests that .ci/run lays beside it are none of it.
func program(t *testing.T) []source {
	t.Helper()
	var l []source
	err := filepath.WalkDir("..", func(path string, d fs.DirEntry, err error) error {
		if err != nil {
			return err
		}
		if d.IsDir() && (d.Name() == "sharedtests" || d.Name() == ".git") {
			return filepath.SkipDir
		}
		if d.IsDir() || !strings.HasSuffix(path, ".go") || strings.HasSuffix(path, "_test.go") {
			return nil
		}
		text, err := os.ReadFile(path)
		if err != nil {
			return err
		}
		files := token.NewFileSet()
		content, err := parser.ParseFile(files, path, text, parser.ParseComments)
		l = append(l, source{path, text, files, content})
		return err
	})
	if err != nil {
		t.Fatal(err)
	}
	if len(l) < len(layers) {
		t.Fatal("only so many files:", len(l))
	}
	return l
}

func TestLayout(t *testing.T) {
	for _, f := range program(t) {
		laid, err := format.Source(f.text)
		if err != nil || !bytes.Equal(laid, f.text) {
			t.Errorf("%s: not in gofmt's layout (%v)", f.path, err)
		}
	}
}

func TestImports(t *testing.T) {
	for _, f := range program(t) {
		own := slices.Index(layers, f.content.Name.Name)
		for _, i := range f.content.Imports {
			path, _ := strconv.Unquote(i.Path.Value)
			name, ours := strings.CutPrefix(path, "herald/")
			if !ours && !slices.Contains(library, path) {
				t.Errorf("%s: imports %s", f.path, path)
			}
			if other := slices.Index(layers, name); ours && own >= 0 && other >= own {
				t.Errorf("%s: imports %s, which is not below it", f.path, path)
			}
		}
	}
}

func TestNoDirectives(t *testing.T) {
	for _, f := range program(t) {
		for _, group := range f.content.Comments {
			for _, c := range group.List {
				if strings.HasPrefix(c.Text, "//go:") || strings.HasPrefix(c.Text, "// +build") {
					t.Errorf("%s: %s", f.path, c.Text)
				}
			}
		}
	}
}

func TestFunctionsAreSmall(t *testing.T) {
	for _, f := range program(t) {
		for _, d := range f.content.Decls {
			x, ok := d.(*ast.FuncDecl)
			if !ok {
				continue
			}
			if lines := f.files.Position(x.End()).Line - f.files.Position(x.Pos()).Line + 1; lines > mostLines {
				t.Errorf("%s: %s has %d lines", f.path, x.Name.Name, lines)
			}
			if x.Recv == nil && x.Name.Name == "init" {
				t.Errorf("%s: init", f.path)
			}
		}
	}
}

func TestPackageVariables(t *testing.T) {
	for _, f := range program(t) {
		for _, d := range f.content.Decls {
			x, ok := d.(*ast.GenDecl)
			if !ok || x.Tok != token.VAR {
				continue
			}
			for _, s := range x.Specs {
				v := s.(*ast.ValueSpec)
				if len(v.Values) != len(v.Names) || slices.ContainsFunc(v.Values, func(e ast.Expr) bool { return !isTable(e) }) {
					t.Errorf("%s: the variable %s is neither a table nor an error", f.path, v.Names[0].Name)
				}
			}
		}
	}
}

// isTable tells whether a value is written out as a table, or is an error made by errors.New.
func isTable(e ast.Expr) bool {
	switch x := e.(type) {
	case *ast.CompositeLit:
		_, isMap := x.Type.(*ast.MapType)
		return !isMap
	case *ast.CallExpr:
		s, ok := x.Fun.(*ast.SelectorExpr)
		if !ok {
			return false
		}
		p, ok := s.X.(*ast.Ident)
		return ok && p.Name == "errors" && s.Sel.Name == "New"
	}
	return false
}
