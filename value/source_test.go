package value_test

import (
	"go/ast"
	"go/parser"
	"go/token"
	"path/filepath"
	"strconv"
	"strings"
	"testing"
)

// sources are the package's files without its tests.
func sources(t *testing.T) (*token.FileSet, []*ast.File) {
	t.Helper()
	names, err := filepath.Glob("*.go")
	if err != nil {
		t.Fatal(err)
	}
	set := token.NewFileSet()
	var files []*ast.File
	for _, name := range names {
		if strings.HasSuffix(name, "_test.go") {
			continue
		}
		f, err := parser.ParseFile(set, name, nil, parser.ParseComments)
		if err != nil {
			t.Fatal(err)
		}
		files = append(files, f)
	}
	if len(files) == 0 {
		t.Fatal("no sources")
	}
	return set, files
}

// The map says that layer 1 calls api alone, LANGUAGE.md which packages of the library there are.
func TestImports(t *testing.T) {
	allowed := " cordon/api bytes cmp container/heap errors iter maps math math/bits slices sort strconv strings unicode unicode/utf8 "
	_, files := sources(t)
	for _, f := range files {
		for _, i := range f.Imports {
			path, err := strconv.Unquote(i.Path.Value)
			if err != nil || !strings.Contains(allowed, " "+path+" ") {
				t.Errorf("import %s", i.Path.Value)
			}
		}
	}
}

func TestForm(t *testing.T) {
	set, files := sources(t)
	for _, f := range files {
		for _, d := range f.Decls {
			switch x := d.(type) {
			case *ast.FuncDecl:
				if n := set.Position(x.End()).Line - set.Position(x.Pos()).Line + 1; n > 60 {
					t.Errorf("%s has %d lines", x.Name.Name, n)
				}
			case *ast.GenDecl:
				if x.Tok == token.VAR {
					t.Errorf("%v: a variable of the package", set.Position(x.Pos()))
				}
			}
		}
		ast.Inspect(f, func(n ast.Node) bool {
			if _, ok := n.(*ast.GoStmt); ok {
				t.Errorf("%v: a goroutine", set.Position(n.Pos()))
			}
			return true
		})
	}
}

// What is reckoned with two numbers is a closure that one function is handed, and types fall through.
func TestWays(t *testing.T) {
	_, files := sources(t)
	closures, falls := map[string]int{}, 0
	for _, f := range files {
		for _, d := range f.Decls {
			fn, ok := d.(*ast.FuncDecl)
			if !ok {
				continue
			}
			ast.Inspect(fn, func(n ast.Node) bool {
				switch x := n.(type) {
				case *ast.FuncLit:
					closures[fn.Name.Name]++
				case *ast.BranchStmt:
					if x.Tok == token.FALLTHROUGH {
						falls++
					}
				}
				return true
			})
		}
	}
	for _, name := range []string{"Add", "Sub", "Mul", "Div", "Mod"} {
		if closures[name] == 0 {
			t.Errorf("%s has no closure", name)
		}
	}
	if falls == 0 {
		t.Error("no type falls through")
	}
}
