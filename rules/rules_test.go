// Package rules holds the whole program against the rules for its form: what it imports, which layer calls which, what stands at package level.
package rules

import (
	"go/ast"
	"go/format"
	"go/importer"
	"go/parser"
	"go/token"
	"go/types"
	"os"
	"path/filepath"
	"slices"
	"strings"
	"testing"
)

const (
	root      = ".."
	module    = "aumbry"
	mostLines = 60
)

// layers are the packages of the document's map, in its order.
var layers = strings.Fields("octet digest disk extent slot gear segment bloom hook cache pack bin record journal recipe names ingest clean vault script model field parity squeeze code tape wire twin")

// library is what of Go's library may be imported.
var library = strings.Fields("bytes cmp container/heap errors iter maps math math/bits slices sort strconv strings sync sync/atomic unicode unicode/utf8")

// ofSync is what of package sync may be used.
var ofSync = strings.Fields("Mutex RWMutex WaitGroup Once")

type source struct {
	path, folder string
	text         []byte
	file         *ast.File
}

type program struct {
	set     *token.FileSet
	sources []source
	info    *types.Info
	checked map[string]*types.Package
	std     types.Importer
}

// read takes all Go files of the program that are no tests.
func read(t *testing.T) *program {
	t.Helper()
	p := &program{set: token.NewFileSet(), checked: map[string]*types.Package{}}
	p.info = &types.Info{Uses: map[*ast.Ident]types.Object{}, Defs: map[*ast.Ident]types.Object{}}
	p.std = importer.ForCompiler(p.set, "source", nil)
	files, err := filepath.Glob(filepath.Join(root, "*", "*.go"))
	if err != nil {
		t.Fatal(err)
	}
	for _, path := range files {
		if strings.HasSuffix(path, "_test.go") {
			continue
		}
		text, err := os.ReadFile(path)
		if err != nil {
			t.Fatal(err)
		}
		file, err := parser.ParseFile(p.set, path, text, parser.ParseComments)
		if err != nil {
			t.Fatal(err)
		}
		p.sources = append(p.sources, source{path, filepath.Base(filepath.Dir(path)), text, file})
	}
	if len(p.sources) <= len(layers) {
		t.Fatal("packages are missing", len(p.sources))
	}
	return p
}

func (p *program) Import(path string) (*types.Package, error) {
	folder, own := strings.CutPrefix(path, module+"/")
	if !own {
		return p.std.Import(path)
	}
	if done := p.checked[path]; done != nil {
		return done, nil
	}
	var files []*ast.File
	for _, s := range p.sources {
		if s.folder == folder {
			files = append(files, s.file)
		}
	}
	c := types.Config{Importer: p}
	done, err := c.Check(path, p.set, files, p.info)
	p.checked[path] = done
	return done, err
}

func (p *program) check(t *testing.T) {
	t.Helper()
	for _, s := range p.sources {
		if _, err := p.Import(module + "/" + s.folder); err != nil {
			t.Fatal(err)
		}
	}
}

// TestImports: no clock, no chance, no environment (P6), nothing from outside, and no layer calls one behind it.
func TestImports(t *testing.T) {
	for _, s := range read(t).sources {
		for _, i := range s.file.Imports {
			path := strings.Trim(i.Path.Value, `"`)
			folder, own := strings.CutPrefix(path, module+"/")
			if !own && !slices.Contains(library, path) {
				t.Errorf("%s imports %s", s.path, path)
			}
			from, to := slices.Index(layers, s.folder), slices.Index(layers, folder)
			if own && from >= 0 && to >= from || own && s.folder == "api" {
				t.Errorf("%s imports %s, which stands behind it", s.path, path)
			}
		}
	}
}

// TestUses: of what may be imported some is left out.
func TestUses(t *testing.T) {
	p := read(t)
	p.check(t)
	for name, o := range p.info.Uses {
		if _, ok := o.(*types.Builtin); ok && strings.HasPrefix(o.Name(), "print") {
			t.Errorf("%s: %s", p.set.Position(name.Pos()), o.Name())
		}
		if o.Pkg() == nil || o.Parent() != o.Pkg().Scope() {
			continue
		}
		path := o.Pkg().Path()
		if path == "sync" && !slices.Contains(ofSync, o.Name()) || path == "iter" && strings.HasPrefix(o.Name(), "Pull") {
			t.Errorf("%s: %s.%s", p.set.Position(name.Pos()), path, o.Name())
		}
	}
}

// TestNothingKeptAtPackageLevel: what is kept between calls is in objects alone (P6).
func TestNothingKeptAtPackageLevel(t *testing.T) {
	p := read(t)
	p.check(t)
	for _, s := range p.sources {
		for _, d := range s.file.Decls {
			p.wantTables(t, d)
		}
		ast.Inspect(s.file, func(n ast.Node) bool {
			for _, e := range changed(n) {
				if name := rootName(e); name != nil && p.isPackageVariable(name) {
					t.Errorf("%s: %s is changed, or may be", p.set.Position(n.Pos()), name.Name)
				}
			}
			return true
		})
	}
}

// wantTables: variables at package level have a value that is written out there, and are no maps, functions or pointers.
func (p *program) wantTables(t *testing.T, d ast.Decl) {
	t.Helper()
	g, ok := d.(*ast.GenDecl)
	if !ok || g.Tok != token.VAR {
		return
	}
	for _, spec := range g.Specs {
		v := spec.(*ast.ValueSpec)
		for i, name := range v.Names {
			at := p.set.Position(name.Pos())
			if i >= len(v.Values) {
				t.Errorf("%s: %s has no value of its own", at, name.Name)
				continue
			}
			if call, ok := v.Values[i].(*ast.CallExpr); ok && types.ExprString(call.Fun) != "errors.New" {
				t.Errorf("%s: %s is made by a call", at, name.Name)
			}
			switch p.info.Defs[name].Type().Underlying().(type) {
			case *types.Map, *types.Signature, *types.Pointer, *types.Chan:
				t.Errorf("%s: %s is of a kind that may not stand there", at, name.Name)
			}
		}
	}
}

// changed is what a node assigns, counts, or takes the address of.
func changed(n ast.Node) []ast.Expr {
	switch x := n.(type) {
	case *ast.AssignStmt:
		if x.Tok != token.DEFINE {
			return x.Lhs
		}
	case *ast.IncDecStmt:
		return []ast.Expr{x.X}
	case *ast.UnaryExpr:
		if x.Op == token.AND {
			return []ast.Expr{x.X}
		}
	case *ast.RangeStmt:
		if x.Tok == token.ASSIGN {
			return []ast.Expr{x.Key, x.Value}
		}
	case *ast.SliceExpr:
		return []ast.Expr{x.X}
	}
	return nil
}

// rootName is the name that an element, a field or a part belongs to.
func rootName(e ast.Expr) *ast.Ident {
	for {
		switch x := e.(type) {
		case *ast.Ident:
			return x
		case *ast.IndexExpr:
			e = x.X
		case *ast.SelectorExpr:
			e = x.X
		case *ast.ParenExpr:
			e = x.X
		case *ast.SliceExpr:
			e = x.X
		case *ast.StarExpr:
			e = x.X
		default:
			return nil
		}
	}
}

func (p *program) isPackageVariable(name *ast.Ident) bool {
	v, ok := p.info.Uses[name].(*types.Var)
	return ok && v.Pkg() != nil && v.Parent() == v.Pkg().Scope()
}

// TestForm: gofmt's layout, no lines for the compiler, no long functions.
func TestForm(t *testing.T) {
	p := read(t)
	for _, s := range p.sources {
		laid, err := format.Source(s.text)
		if err != nil || string(laid) != string(s.text) {
			t.Errorf("%s is not in gofmt's layout", s.path)
		}
		for _, g := range s.file.Comments {
			for _, c := range g.List {
				if strings.HasPrefix(c.Text, "//go:") || strings.HasPrefix(c.Text, "// +build") {
					t.Errorf("%s: %s", p.set.Position(c.Pos()), c.Text)
				}
			}
		}
		for _, d := range s.file.Decls {
			f, ok := d.(*ast.FuncDecl)
			if !ok {
				continue
			}
			if n := p.set.Position(f.End()).Line - p.set.Position(f.Pos()).Line + 1; n > mostLines {
				t.Errorf("%s: %s has %d lines", p.set.Position(f.Pos()), f.Name.Name, n)
			}
		}
	}
}
