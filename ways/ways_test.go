// Package ways tests that the code of each layer uses the language features that the document's section 'Ways' names for it.
package ways

import (
	"go/ast"
	"go/importer"
	"go/parser"
	"go/token"
	"go/types"
	"path/filepath"
	"slices"
	"strings"
	"testing"
)

const module = "walkmill"

// layers are the layers that are built, with the end of their lines in section 'Ways'.
var layers = []struct{ name, words string }{
	{"cloth", "closure variadic embedding promoted map array range-function range-integer label copy range-map"},
	{"stream", "closure variadic embedding promoted map range-function range-integer struct-compared"},
	{"stock", "closure variadic embedding promoted array range-function range-integer label copy"},
	{"turn", "closure variadic embedding promoted range-function range-integer method-value copy"},
	{"tenter", "closure variadic embedding promoted map range-function method-value array"},
	{"soap", "closure variadic embedding promoted range-function range-integer generic-function label"},
	{"seal", "closure variadic embedding promoted map array range-function range-integer range-string rune iota label delete method-value"},
	{"teasel", "closure variadic map array range-function range-integer copy struct-compared"},
	{"theft", "closure variadic map array range-function range-integer method-value range-map"},
	{"wool", "closure variadic embedding promoted map range-function range-integer method-expression"},
	{"shear", "closure variadic embedding promoted map range-function range-integer method-value struct-compared range-map"},
}

// TestWays looks for the features in all code that the exported functions of a layer reach.
func TestWays(t *testing.T) {
	for _, layer := range layers {
		found := waysOf(t, layer.name)
		for _, word := range strings.Fields(layer.words) {
			if !found[word] {
				t.Errorf("layer %s: way missing: %s", layer.name, word)
			}
		}
	}
}

// TestNoWays is for the test above: nothing is found where no function is reached.
func TestNoWays(t *testing.T) {
	if found := waysOf(t, "api"); len(found) > 0 {
		t.Errorf("%v in package api, which has no functions", found)
	}
}

// program is the code of the packages that were loaded.
type program struct {
	fset     *token.FileSet
	info     types.Info
	packages map[string]*types.Package
	library  types.Importer
	// declared is where the objects of the package level, and methods, are declared.
	declared map[types.Object]ast.Node
	// called are the expressions that stand before the arguments of calls.
	called map[ast.Expr]bool
}

func newProgram() *program {
	p := &program{
		fset:     token.NewFileSet(),
		packages: map[string]*types.Package{},
		declared: map[types.Object]ast.Node{},
		called:   map[ast.Expr]bool{},
		info: types.Info{
			Types:      map[ast.Expr]types.TypeAndValue{},
			Defs:       map[*ast.Ident]types.Object{},
			Uses:       map[*ast.Ident]types.Object{},
			Selections: map[*ast.SelectorExpr]*types.Selection{},
		},
	}
	p.library = importer.ForCompiler(p.fset, "source", nil)
	return p
}

// Import returns a package of the project, or of the library.
func (p *program) Import(path string) (*types.Package, error) {
	folder, own := strings.CutPrefix(path, module+"/")
	if !own {
		return p.library.Import(path)
	}
	if done, ok := p.packages[path]; ok {
		return done, nil
	}
	names, err := filepath.Glob(filepath.Join("..", folder, "*.go"))
	if err != nil {
		return nil, err
	}
	var files []*ast.File
	for _, name := range names {
		if strings.HasSuffix(name, "_test.go") {
			continue
		}
		file, err := parser.ParseFile(p.fset, name, nil, parser.SkipObjectResolution)
		if err != nil {
			return nil, err
		}
		files = append(files, file)
	}
	config := types.Config{Importer: p}
	done, err := config.Check(path, p.fset, files, &p.info)
	p.packages[path] = done
	for _, file := range files {
		p.declare(file)
	}
	return done, err
}

// declare notes where the objects of a file are declared.
func (p *program) declare(file *ast.File) {
	for _, d := range file.Decls {
		switch d := d.(type) {
		case *ast.FuncDecl:
			p.declared[p.info.Defs[d.Name]] = d
		case *ast.GenDecl:
			for _, s := range d.Specs {
				switch s := s.(type) {
				case *ast.TypeSpec:
					p.declared[p.info.Defs[s.Name]] = s
				case *ast.ValueSpec:
					for _, name := range s.Names {
						p.declared[p.info.Defs[name]] = s
						if d.Tok == token.CONST { // a line can repeat the one above it, so the whole group declares it
							p.declared[p.info.Defs[name]] = d
						}
					}
				}
			}
		}
	}
}

// waysOf returns the words for all features in the code that the exported functions of a layer reach.
func waysOf(t *testing.T, layer string) map[string]bool {
	t.Helper()
	p := newProgram()
	home, err := p.Import(module + "/" + layer)
	if err != nil {
		t.Fatal(err)
	}
	var reached []types.Object
	for o, n := range p.declared {
		if f, ok := n.(*ast.FuncDecl); ok && o.Pkg() == home && f.Name.IsExported() {
			reached = append(reached, o)
		}
	}
	found := map[string]bool{}
	for i := 0; i < len(reached); i++ {
		ast.Inspect(p.declared[reached[i]], func(n ast.Node) bool {
			if call, ok := n.(*ast.CallExpr); ok {
				p.called[ast.Unparen(call.Fun)] = true // seen before the expression itself is
			}
			for _, word := range []string{p.word(n), p.selected(n)} {
				if word != "" {
					found[word] = true
				}
			}
			if o := p.used(n); o != nil && !slices.Contains(reached, o) {
				reached = append(reached, o)
			}
			return true
		})
	}
	return found
}

// used returns the object of the project that a name stands for, if it is one. What package api has is given, and says nothing of the layers.
func (p *program) used(n ast.Node) types.Object {
	name, ok := n.(*ast.Ident)
	if !ok {
		return nil
	}
	o := p.info.Uses[name]
	if f, ok := o.(*types.Func); ok {
		o = f.Origin()
	}
	if p.declared[o] == nil || o.Pkg().Name() == "api" {
		return nil
	}
	return o
}

// word returns the word for the feature that a node is, if it is one.
func (p *program) word(n ast.Node) string {
	switch x := n.(type) {
	case *ast.FuncLit:
		return "closure"
	case *ast.FuncDecl:
		return when(x.Type.TypeParams != nil, "generic-function")
	case *ast.LabeledStmt:
		return "label"
	case *ast.MapType:
		return "map"
	case *ast.ArrayType:
		return when(x.Len != nil, "array")
	case *ast.Ellipsis:
		return when(x.Elt != nil, "variadic")
	case *ast.StructType:
		return when(slices.ContainsFunc(x.Fields.List, func(f *ast.Field) bool { return len(f.Names) == 0 }), "embedding")
	case *ast.SelectorExpr:
		return p.method(x)
	case *ast.IndexExpr:
		return when(p.structKeys(x.X), "struct-compared")
	case *ast.BinaryExpr:
		_, ok := p.under(x.X).(*types.Struct)
		return when(ok && (x.Op == token.EQL || x.Op == token.NEQ), "struct-compared")
	case *ast.CallExpr:
		f, ok := ast.Unparen(x.Fun).(*ast.Ident)
		return when(ok && (p.universal(f, "copy") || p.universal(f, "delete")), types.ExprString(x.Fun))
	case *ast.Ident:
		if p.universal(x, "iota") {
			return "iota"
		}
		return when(p.isRune(p.info.Uses[x]), "rune")
	case *ast.RangeStmt:
		return p.ranged(x)
	}
	return ""
}

// method returns the word for a method that is not just called.
func (p *program) method(x *ast.SelectorExpr) string {
	s := p.info.Selections[x]
	if s != nil && s.Kind() == types.MethodExpr {
		return "method-expression"
	}
	return when(s != nil && s.Kind() == types.MethodVal && !p.called[x], "method-value")
}

// selected returns the word for the way to what is selected.
func (p *program) selected(n ast.Node) string {
	x, ok := n.(*ast.SelectorExpr)
	if !ok {
		return ""
	}
	s := p.info.Selections[x]
	return when(s != nil && len(s.Index()) > 1, "promoted")
}

// ranged returns the word for what is ranged over.
func (p *program) ranged(x *ast.RangeStmt) string {
	switch t := p.under(x.X).(type) {
	case *types.Map:
		return "range-map"
	case *types.Signature:
		return "range-function"
	case *types.Basic:
		if t.Info()&types.IsString != 0 {
			return "range-string"
		}
		return when(t.Info()&types.IsInteger != 0, "range-integer")
	}
	return ""
}

// universal reports whether a name stands for what the language calls so.
func (p *program) universal(x *ast.Ident, name string) bool {
	return p.info.Uses[x] == types.Universe.Lookup(name)
}

// isRune reports whether an object is the type rune, or a variable of it.
func (p *program) isRune(o types.Object) bool {
	return o != nil && o.Type() == types.Universe.Lookup("rune").Type()
}

// structKeys reports whether an expression is a map whose keys are structs.
func (p *program) structKeys(x ast.Expr) bool {
	m, ok := p.under(x).(*types.Map)
	if !ok {
		return false
	}
	_, ok = m.Key().Underlying().(*types.Struct)
	return ok
}

// under returns what the type of an expression is made of.
func (p *program) under(x ast.Expr) types.Type {
	t := p.info.Types[x].Type
	if t == nil {
		return nil
	}
	return t.Underlying()
}

func when(is bool, word string) string {
	if is {
		return word
	}
	return ""
}
