// Package rules holds tests of how the program is written: its layers, its imports, its layout.
package rules

import (
	"bytes"
	"go/ast"
	"go/format"
	"go/parser"
	"go/token"
	"os"
	"path/filepath"
	"slices"
	"strconv"
	"strings"
	"testing"
)

// layers are the program's packages; each may import those ahead of it.
var layers = []string{"api", "text", "codec", "wire", "frag", "lossy", "ranges", "store", "xonce", "journal", "core", "node", "client", "history", "linear", "plan", "audit", "cluster", "shell"}

var library = []string{"bytes", "cmp", "container/heap", "errors", "iter", "maps", "math", "math/big", "math/bits", "slices", "sort", "strconv", "strings", "sync", "sync/atomic", "unicode", "unicode/utf8"}

const longest = 60 // lines of a function

type source struct {
	layer int
	path  string
	bytes []byte
	set   *token.FileSet
	file  *ast.File
}

// sources reads the program's Go files, its tests left out.
func sources(t *testing.T) []source {
	var out []source
	for i, layer := range layers {
		entries, err := os.ReadDir(filepath.Join("..", layer))
		if err != nil {
			t.Fatal(err)
		}
		for _, entry := range entries {
			path := filepath.Join("..", layer, entry.Name())
			if filepath.Ext(path) != ".go" {
				t.Errorf("%s: not a Go file", path)
				continue
			}
			if strings.HasSuffix(path, "_test.go") {
				continue
			}
			b, err := os.ReadFile(path)
			if err != nil {
				t.Fatal(err)
			}
			set := token.NewFileSet()
			file, err := parser.ParseFile(set, path, b, parser.ParseComments)
			if err != nil {
				t.Fatal(err)
			}
			out = append(out, source{i, path, b, set, file})
		}
	}
	return out
}

func TestEachLayerImportsTheLibraryAndLowerLayersAlone(t *testing.T) {
	for _, s := range sources(t) {
		for _, spec := range s.file.Imports {
			path, _ := strconv.Unquote(spec.Path.Value)
			own, ours := strings.CutPrefix(path, "shard/")
			if ours && !slices.Contains(layers[:s.layer], own) {
				t.Errorf("%s imports %s, which is no lower layer", s.path, path)
			}
			if !ours && !slices.Contains(library, path) {
				t.Errorf("%s imports %s, which the language does not have", s.path, path)
			}
		}
	}
}

func TestNoDirectives(t *testing.T) {
	for _, s := range sources(t) {
		for _, group := range s.file.Comments {
			for _, c := range group.List {
				if strings.HasPrefix(c.Text, "//go:") || strings.HasPrefix(c.Text, "// +build") {
					t.Errorf("%s: the line %s", s.path, c.Text)
				}
			}
		}
	}
}

func TestLayout(t *testing.T) {
	for _, s := range sources(t) {
		if laid, err := format.Source(s.bytes); err != nil || !bytes.Equal(laid, s.bytes) {
			t.Errorf("%s is not laid out as gofmt does it", s.path)
		}
		for _, d := range s.file.Decls {
			f, ok := d.(*ast.FuncDecl)
			if !ok {
				continue
			}
			if lines := s.set.Position(f.End()).Line - s.set.Position(f.Pos()).Line + 1; lines > longest {
				t.Errorf("%s: %s has %d lines", s.path, f.Name.Name, lines)
			}
		}
	}
}
