package rules

import (
	"bytes"
	"go/ast"
	"go/format"
	"go/importer"
	"go/parser"
	"go/token"
	"go/types"
	"os"
	"path/filepath"
	"slices"
	"strconv"
	"strings"
	"testing"
)

// layers are the packages of the map, in its order: each may call those ahead of it.
const layers = "api text lines addr place frame disk wal box deed store part coord wire bag head date mime glob query view smtp imap cluster flat"

// library are the packages of the library that the program may import.
const library = " bytes cmp container/heap errors iter maps math math/bits slices sort strconv strings sync sync/atomic unicode unicode/utf8 "

// someLines is how many lines a function may have: "some 60".
const someLines = 66

// source is a file of the program, without its tests.
type source struct {
	path string
	text []byte
	file *ast.File
}

// sources are a layer's files, and where they stand.
func sources(t *testing.T, layer string) (*token.FileSet, []source) {
	t.Helper()
	all, err := os.ReadDir(filepath.Join("..", layer))
	if err != nil {
		t.Fatal(err)
	}
	set, l := token.NewFileSet(), []source{}
	for _, f := range all {
		path := filepath.Join("..", layer, f.Name())
		if strings.HasSuffix(path, "_test.go") || f.IsDir() {
			continue
		}
		if !strings.HasSuffix(path, ".go") {
			t.Errorf("%s is no Go file", path)
			continue
		}
		text, err := os.ReadFile(path)
		if err != nil {
			t.Fatal(err)
		}
		file, err := parser.ParseFile(set, path, text, parser.ParseComments)
		if err != nil {
			t.Fatal(err)
		}
		l = append(l, source{path, text, file})
	}
	if len(l) == 0 {
		t.Fatalf("the layer %s is not there", layer)
	}
	return set, l
}

// LANGUAGE 1, and the map: what each layer imports.
func TestImports(t *testing.T) {
	names := strings.Fields(layers)
	for number, layer := range names {
		_, l := sources(t, layer)
		for _, s := range l {
			for _, i := range s.file.Imports {
				path, _ := strconv.Unquote(i.Path.Value)
				own, ours := strings.CutPrefix(path, "pigeonhole/")
				if ours && slices.Index(names, own) >= number {
					t.Errorf("%s calls %s, which is not ahead of it", s.path, own)
				}
				if !ours && !strings.Contains(library, " "+path+" ") {
					t.Errorf("%s imports %s", s.path, path)
				}
			}
		}
	}
}

// LANGUAGE 2 and 9: no line for the compiler, gofmt's layout, functions of some 60 lines.
func TestLayout(t *testing.T) {
	for layer := range strings.FieldsSeq(layers) {
		set, l := sources(t, layer)
		for _, s := range l {
			if f, err := format.Source(s.text); err != nil || !bytes.Equal(f, s.text) {
				t.Errorf("%s is not as gofmt lays it", s.path)
			}
			for _, g := range s.file.Comments {
				for _, c := range g.List {
					if strings.HasPrefix(c.Text, "//go:") || strings.HasPrefix(c.Text, "// +build") {
						t.Errorf("%s has %s", s.path, c.Text)
					}
				}
			}
			for _, d := range s.file.Decls {
				if n := set.Position(d.End()).Line - set.Position(d.Pos()).Line + 1; n > someLines {
					if f, ok := d.(*ast.FuncDecl); ok {
						t.Errorf("%s: %s has %d lines", s.path, f.Name.Name, n)
					}
				}
			}
		}
	}
}

// The section Ways: what the packages of each stage that has landed lean on.
func TestWays(t *testing.T) {
	for _, c := range []struct{ layers, ways string }{
		{"text", "range-string rune"},
		{"lines", "label three-index"},
		{"addr", "range-string rune iota"},
		{"place", "map closure"},
		{"frame", "closure variadic"},
		{"disk", "array copy"},
		{"wal", "range-function three-index"},
		{"box", "closure iota"},
		{"deed", "panic recover defer assertion"},
		{"store", "map delete fallthrough"},
		{"part", "map struct-compared interface type-switch"},
		{"coord", "array closure"},
		{"wire", "fallthrough embedding promoted"},
		{"bag", "copy range-integer"},
		{"head", "closure label"},
		{"date", "embedding promoted"},
		{"mime", "closure panic recover defer"},
		{"glob", "label"},
		{"query", "three-index panic recover defer assertion"},
		{"view", "array label"},
	} {
		got := map[string]bool{}
		for layer := range strings.FieldsSeq(c.layers) {
			look(t, layer, got)
		}
		for way := range strings.FieldsSeq(c.ways) {
			if !got[way] {
				t.Errorf("%s has no %s", c.layers, way)
			}
		}
	}
}

// look adds the ways that a layer has to got.
func look(t *testing.T, layer string, got map[string]bool) {
	t.Helper()
	set, l := sources(t, layer)
	files := []*ast.File{}
	for _, s := range l {
		files = append(files, s.file)
	}
	info := &types.Info{
		Types: map[ast.Expr]types.TypeAndValue{}, Defs: map[*ast.Ident]types.Object{}, Uses: map[*ast.Ident]types.Object{},
		Selections: map[*ast.SelectorExpr]*types.Selection{},
	}
	c := types.Config{Importer: importer.ForCompiler(set, "source", nil)}
	if _, err := c.Check("pigeonhole/"+layer, set, files, info); err != nil {
		t.Fatal(err)
	}
	for _, f := range files {
		ast.Inspect(f, func(n ast.Node) bool {
			switch x := n.(type) {
			case *ast.LabeledStmt:
				got["label"] = true
			case *ast.DeferStmt:
				got["defer"] = true
			case *ast.TypeAssertExpr:
				got["assertion"] = got["assertion"] || x.Type != nil
			case *ast.BranchStmt:
				got["fallthrough"] = got["fallthrough"] || x.Tok == token.FALLTHROUGH
			case *ast.TypeSwitchStmt:
				got["type-switch"] = true
			case *ast.InterfaceType:
				got["interface"] = got["interface"] || len(x.Methods.List) > 0
			case *ast.MapType:
				got["map"] = true
			case *ast.IndexExpr:
				if m, ok := info.Types[x.X].Type.Underlying().(*types.Map); ok {
					_, by := m.Key().Underlying().(*types.Struct)
					got["struct-compared"] = got["struct-compared"] || by
				}
			case *ast.StructType:
				for _, f := range x.Fields.List {
					got["embedding"] = got["embedding"] || len(f.Names) == 0
				}
			case *ast.SelectorExpr:
				s := info.Selections[x]
				got["promoted"] = got["promoted"] || s != nil && len(s.Index()) > 1
			case *ast.FuncLit:
				got["closure"] = true
			case *ast.Ellipsis:
				got["variadic"] = got["variadic"] || x.Elt != nil
			case *ast.ArrayType:
				got["array"] = got["array"] || x.Len != nil
			case *ast.SliceExpr:
				got["three-index"] = got["three-index"] || x.Slice3
			case *ast.RangeStmt:
				switch over := info.Types[x.X].Type.Underlying().(type) {
				case *types.Basic:
					got["range-string"] = got["range-string"] || over.Info()&types.IsString != 0
					got["range-integer"] = got["range-integer"] || over.Info()&types.IsInteger != 0
				case *types.Signature:
					got["range-function"] = true
				}
			case *ast.Ident:
				if v, ok := info.Defs[x].(*types.Var); ok && v.Type() == types.Universe.Lookup("rune").Type() {
					got["rune"] = true
				}
				for _, word := range []string{"iota", "copy", "panic", "recover", "delete"} {
					if info.Uses[x] == types.Universe.Lookup(word) {
						got[word] = true
					}
				}
			}
			return true
		})
	}
}
