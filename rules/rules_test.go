// Package rules holds the sources of all layers against what the map, the ways and LANGUAGE.md ask.
package rules

import (
	"go/ast"
	"go/parser"
	"go/token"
	"path/filepath"
	"strconv"
	"strings"
	"testing"
)

// layer is a package that is built, the layers that it may call, and the ways that it leans on.
type layer struct {
	name, calls, ways string
}

var layers = []layer{
	{"value", "api", "closure fallthrough"},
	{"code", "api value", "iota label fallthrough range-integer"},
	{"lattice", "api", "goto label map array copy"},
	{"plane", "api", "complex real imag"},
	{"token", "api", "goto label fallthrough closure range-integer"},
	{"syntax", "api token", "generic-function closure goto label fallthrough method-value variadic"},
	{"unparse", "api token", "generic-function closure embedding promoted fallthrough variadic array rune"},
	{"schema", "api lattice", "map closure fallthrough copy array"},
	{"types", "api unparse schema", "iota fallthrough closure copy"},
	{"algebra", "api schema types", "goto label closure fallthrough copy"},
	{"rows", "api value code", "map closure fallthrough range-integer"},
	{"store", "api value code schema", "map fallthrough closure copy"},
	{"engine", "api value rows store", "fallthrough array copy three-index"},
	{"change", "api value store engine", "closure copy function-field"},
	{"script", "api unparse schema types algebra change", "embedding promoted fallthrough map variadic closure"},
	{"interp", "api value store engine change", "map fallthrough"},
	{"labels", "api lattice schema", "variadic fallthrough array copy"},
	{"flow", "api lattice schema labels", "goto label fallthrough map closure variadic copy"},
	{"derive", "api lattice schema labels flow", "fallthrough variadic closure embedding promoted"},
	{"erase", "api schema store labels", "closure"}, // what both the map and the chapter give it
	{"weigh", "api plane", "complex imag fallthrough"},
	{"audit", "api schema store engine labels", "closure variadic interface interface-call"}, // likewise
	{"report", "api value token", "array range-integer"},
	{"app", "api syntax schema store script interp flow", "embedding promoted"},
	{"tool", "api syntax algebra store audit report app", "embedding promoted fallthrough closure rune"}, // likewise
}

const library = "bytes cmp container/heap errors iter maps math math/bits slices sort strconv strings unicode unicode/utf8"

// sources are a package's files without its tests.
func sources(t *testing.T, name string) (*token.FileSet, []*ast.File) {
	t.Helper()
	names, err := filepath.Glob(filepath.Join("..", name, "*.go"))
	if err != nil {
		t.Fatal(err)
	}
	set := token.NewFileSet()
	var files []*ast.File
	for _, name := range names {
		if strings.HasSuffix(name, "_test.go") {
			continue
		}
		f, err := parser.ParseFile(set, name, nil, parser.ParseComments)
		if err != nil {
			t.Fatal(err)
		}
		files = append(files, f)
	}
	if len(files) == 0 {
		t.Fatalf("%s has no sources", name)
	}
	return set, files
}

// Of the project a layer calls those that the map gives it, of the library what LANGUAGE.md gives all.
func TestImports(t *testing.T) {
	for _, l := range layers {
		allowed := map[string]bool{}
		for _, path := range strings.Fields(library) {
			allowed[path] = true
		}
		for _, name := range strings.Fields(l.calls) {
			allowed["cordon/"+name] = true
		}
		_, files := sources(t, l.name)
		for _, f := range files {
			for _, i := range f.Imports {
				if path, err := strconv.Unquote(i.Path.Value); err != nil || !allowed[path] {
					t.Errorf("%s imports %s", l.name, i.Path.Value)
				}
			}
		}
	}
}

func TestForm(t *testing.T) {
	for _, l := range layers {
		set, files := sources(t, l.name)
		for _, f := range files {
			for _, d := range f.Decls {
				switch x := d.(type) {
				case *ast.FuncDecl:
					if n := set.Position(x.End()).Line - set.Position(x.Pos()).Line + 1; n > 60 {
						t.Errorf("%s.%s has %d lines", l.name, x.Name.Name, n)
					}
				case *ast.GenDecl:
					if x.Tok == token.VAR {
						t.Errorf("%v: a variable of the package", set.Position(x.Pos()))
					}
				}
			}
			ast.Inspect(f, func(n ast.Node) bool {
				if _, ok := n.(*ast.GoStmt); ok {
					t.Errorf("%v: a goroutine", set.Position(n.Pos()))
				}
				return true
			})
		}
	}
}

func TestWays(t *testing.T) {
	for _, l := range layers {
		got := map[string]bool{}
		_, files := sources(t, l.name)
		methods, asked, parts := methodsOf(files), askedOf(files), partsOf(files)
		for _, f := range files { // what is embedded may stand in a later file than what calls it
			ast.Inspect(f, func(n ast.Node) bool {
				got[way(n)] = true
				return true
			})
		}
		for _, f := range files {
			ast.Inspect(f, func(n ast.Node) bool {
				if handsOn(n, methods) {
					got["method-value"] = true
				}
				if got["embedding"] && callsPromoted(n, f, methods) || callsPart(n, parts) {
					got["promoted"] = true
				}
				if callsAsked(n, asked) {
					got["interface-call"] = true
				}
				return true
			})
		}
		for _, want := range strings.Fields(l.ways) {
			if !got[want] {
				t.Errorf("%s has no %s", l.name, want)
			}
		}
	}
}

// methodsOf are the names of the methods that files declare.
func methodsOf(files []*ast.File) map[string]bool {
	out := map[string]bool{}
	for _, f := range files {
		for _, d := range f.Decls {
			if fn, ok := d.(*ast.FuncDecl); ok && fn.Recv != nil {
				out[fn.Name.Name] = true
			}
		}
	}
	return out
}

// askedOf are the names of the methods that interfaces of files ask for, but those that files declare themselves.
func askedOf(files []*ast.File) map[string]bool {
	out, own := map[string]bool{}, methodsOf(files)
	for _, f := range files {
		ast.Inspect(f, func(n ast.Node) bool {
			x, ok := n.(*ast.InterfaceType)
			if !ok {
				return true
			}
			for _, m := range x.Methods.List {
				for _, name := range m.Names {
					out[name.Name] = !own[name.Name]
				}
			}
			return true
		})
	}
	return out
}

// callsAsked tells whether a piece of a source calls a method that an interface asks for.
func callsAsked(n ast.Node, asked map[string]bool) bool {
	call, ok := n.(*ast.CallExpr)
	if !ok {
		return false
	}
	s, ok := call.Fun.(*ast.SelectorExpr)
	return ok && asked[s.Sel.Name]
}

// handsOn tells whether a piece of a source is a call that is handed a method as a value.
func handsOn(n ast.Node, methods map[string]bool) bool {
	call, ok := n.(*ast.CallExpr)
	if !ok {
		return false
	}
	for _, a := range call.Args {
		if s, ok := a.(*ast.SelectorExpr); ok && methods[s.Sel.Name] {
			return true
		}
	}
	return false
}

// callsPromoted tells whether a piece of a source calls what no file declares, of something that is no import: so that an embedded part must have it.
func callsPromoted(n ast.Node, f *ast.File, methods map[string]bool) bool {
	call, ok := n.(*ast.CallExpr)
	if !ok {
		return false
	}
	s, ok := call.Fun.(*ast.SelectorExpr)
	if !ok || methods[s.Sel.Name] {
		return false
	}
	of, ok := s.X.(*ast.Ident)
	if !ok {
		return false
	}
	for _, i := range f.Imports {
		if path, err := strconv.Unquote(i.Path.Value); err != nil || path[strings.LastIndex(path, "/")+1:] == of.Name {
			return false
		}
	}
	return true
}

// part is what a type of the package has: the methods that are declared of it, and the names of what it embeds.
type part struct {
	methods map[string]bool
	embeds  []string
}

// partsOf are the types of files that have methods, or embed something, by name.
func partsOf(files []*ast.File) map[string]part {
	out := map[string]part{}
	for _, f := range files {
		ast.Inspect(f, func(n ast.Node) bool {
			switch x := n.(type) {
			case *ast.TypeSpec:
				if s, ok := x.Type.(*ast.StructType); ok {
					p := out[x.Name.Name]
					for _, field := range s.Fields.List {
						if len(field.Names) == 0 {
							p.embeds = append(p.embeds, typeName(field.Type))
						}
					}
					out[x.Name.Name] = p
				}
			case *ast.FuncDecl:
				if x.Recv != nil {
					name := typeName(x.Recv.List[0].Type)
					p := out[name]
					if p.methods == nil {
						p.methods = map[string]bool{}
					}
					p.methods[x.Name.Name] = true
					out[name] = p
				}
			}
			return true
		})
	}
	return out
}

// typeName is the name of a type of the package, or of one that it points to.
func typeName(x ast.Expr) string {
	if star, ok := x.(*ast.StarExpr); ok {
		x = star.X
	}
	if id, ok := x.(*ast.Ident); ok {
		return id.Name
	}
	return ""
}

// callsPart tells whether a piece of a source is a method that calls, of what it is of, one that is declared of an embedded part alone.
func callsPart(n ast.Node, parts map[string]part) bool {
	fn, ok := n.(*ast.FuncDecl)
	if !ok || fn.Recv == nil || len(fn.Recv.List[0].Names) == 0 {
		return false
	}
	own, of := fn.Recv.List[0].Names[0].Name, parts[typeName(fn.Recv.List[0].Type)]
	found := false
	ast.Inspect(fn, func(n ast.Node) bool {
		call, ok := n.(*ast.CallExpr)
		if !ok {
			return true
		}
		s, ok := call.Fun.(*ast.SelectorExpr)
		if !ok || typeName(s.X) != own || of.methods[s.Sel.Name] {
			return true
		}
		for _, name := range of.embeds {
			found = found || parts[name].methods[s.Sel.Name]
		}
		return true
	})
	return found
}

// way is the word for what a piece of a source is, as far as its form alone tells it.
func way(n ast.Node) string {
	switch x := n.(type) {
	case *ast.FuncLit:
		return "closure"
	case *ast.FuncDecl:
		if x.Type.TypeParams != nil {
			return "generic-function"
		}
	case *ast.Ellipsis:
		if x.Elt != nil {
			return "variadic"
		}
	case *ast.InterfaceType:
		if len(x.Methods.List) > 0 {
			return "interface"
		}
	case *ast.StructType:
		for _, f := range x.Fields.List {
			if len(f.Names) == 0 {
				return "embedding"
			}
			if _, ok := f.Type.(*ast.FuncType); ok {
				return "function-field"
			}
		}
	case *ast.BasicLit:
		if x.Kind == token.CHAR {
			return "rune"
		}
	case *ast.LabeledStmt:
		return "label"
	case *ast.BranchStmt:
		return x.Tok.String()
	case *ast.Ident:
		if x.Name == "iota" {
			return "iota"
		}
	case *ast.MapType:
		return "map"
	case *ast.ArrayType:
		if x.Len != nil {
			return "array"
		}
	case *ast.SliceExpr:
		if x.Slice3 {
			return "three-index"
		}
	case *ast.CallExpr:
		switch f := x.Fun.(type) {
		case *ast.Ident:
			switch f.Name {
			case "copy", "complex", "real", "imag":
				return f.Name
			}
		case *ast.SelectorExpr:
			if of, ok := f.X.(*ast.Ident); ok && of.Name == "slices" && f.Sel.Name == "Clone" {
				return "copy"
			}
		}
	case *ast.RangeStmt:
		switch y := x.X.(type) {
		case *ast.BasicLit:
			return "range-integer"
		case *ast.CallExpr:
			if f, ok := y.Fun.(*ast.Ident); ok && (f.Name == "len" || f.Name == "max") {
				return "range-integer"
			}
		}
	}
	return ""
}

// What is reckoned with two numbers is a closure that one function is handed.
func TestReckoning(t *testing.T) {
	_, files := sources(t, "value")
	closures := map[string]int{}
	for _, f := range files {
		for _, d := range f.Decls {
			fn, ok := d.(*ast.FuncDecl)
			if !ok {
				continue
			}
			ast.Inspect(fn, func(n ast.Node) bool {
				if _, ok := n.(*ast.FuncLit); ok {
					closures[fn.Name.Name]++
				}
				return true
			})
		}
	}
	for _, name := range []string{"Add", "Sub", "Mul", "Div", "Mod"} {
		if closures[name] == 0 {
			t.Errorf("%s has no closure", name)
		}
	}
}
