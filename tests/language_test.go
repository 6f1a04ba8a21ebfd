package tests

import (
	"go/ast"
	"go/parser"
	"go/token"
	"go/types"
	"path/filepath"
	"strings"
	"testing"
)

// program is the parsed source of impl, and what of it is outside the subset of LANGUAGE.md.
type program struct {
	set   *token.FileSet
	files []*ast.File
	info  *types.Info
	// noValue has the places where a function is called or declared, and so is no value.
	noValue map[ast.Expr]bool
	faults  []string
}

func newProgram() *program {
	return &program{
		set:     token.NewFileSet(),
		info:    &types.Info{Uses: map[*ast.Ident]types.Object{}, Types: map[ast.Expr]types.TypeAndValue{}},
		noValue: map[ast.Expr]bool{},
	}
}

func (p *program) fault(at ast.Node, text string) {
	p.faults = append(p.faults, p.set.Position(at.Pos()).String()+": "+text)
}

// parse adds a file; source is nil for a file on disk.
func (p *program) parse(t *testing.T, name string, source any) {
	t.Helper()
	file, err := parser.ParseFile(p.set, name, source, parser.SkipObjectResolution)
	if err != nil {
		t.Fatal(err)
	}
	p.files = append(p.files, file)
}

func (p *program) check() []string {
	for _, file := range p.files {
		for _, imported := range file.Imports {
			p.fault(imported, "import")
		}
	}
	// Without imports types need no importer; an error here is a fault like any other.
	config := types.Config{Error: func(err error) { p.faults = append(p.faults, err.Error()) }}
	config.Check("impl", p.set, p.files, p.info)
	for _, file := range p.files {
		p.checkFile(file)
	}
	return p.faults
}

func (p *program) checkFile(file *ast.File) {
	if file.Name.Name != "impl" {
		p.fault(file, "package other than impl")
	}
	for _, declaration := range file.Decls {
		p.checkDeclaration(declaration)
	}
	ast.Inspect(file, func(node ast.Node) bool {
		p.checkNode(node)
		return true
	})
}

func (p *program) checkDeclaration(declaration ast.Decl) {
	switch d := declaration.(type) {
	case *ast.GenDecl:
		if d.Tok == token.VAR {
			p.fault(d, "package-level variable")
		}
	case *ast.FuncDecl:
		p.noValue[d.Type] = true
		if d.Name.Name == "init" && d.Recv == nil {
			p.fault(d, "func init")
		}
	}
}

func (p *program) checkNode(node ast.Node) {
	p.checkType(node)
	p.checkStatement(node)
	p.checkExpression(node)
}

func (p *program) checkType(node ast.Node) {
	switch n := node.(type) {
	case *ast.InterfaceType:
		p.fault(n, "interface type")
	case *ast.MapType:
		p.fault(n, "map")
	case *ast.ChanType:
		p.fault(n, "channel")
	case *ast.FuncType:
		if !p.noValue[n] {
			p.fault(n, "function type")
		}
		if n.TypeParams != nil {
			p.fault(n, "generics")
		}
	case *ast.TypeSpec:
		if n.TypeParams != nil {
			p.fault(n, "generics")
		}
	}
}

func (p *program) checkStatement(node ast.Node) {
	switch n := node.(type) {
	case *ast.TypeSwitchStmt:
		p.fault(n, "type switch")
	case *ast.GoStmt:
		p.fault(n, "goroutine")
	case *ast.SelectStmt:
		p.fault(n, "select")
	case *ast.DeferStmt:
		p.fault(n, "defer")
	case *ast.BranchStmt:
		if n.Tok == token.GOTO {
			p.fault(n, "goto")
		}
	case *ast.AssignStmt:
		p.checkAssignment(n)
	}
}

func (p *program) checkExpression(node ast.Node) {
	switch n := node.(type) {
	case *ast.FuncLit:
		p.fault(n, "closure")
	case *ast.BasicLit:
		if n.Kind == token.FLOAT || n.Kind == token.IMAG {
			p.fault(n, "float or complex number")
		}
	case *ast.SliceExpr:
		if n.Slice3 {
			p.fault(n, "three indexes")
		}
	case *ast.BinaryExpr:
		p.checkComparison(n)
	case *ast.CallExpr:
		p.noValue[ast.Unparen(n.Fun)] = true
	case *ast.SelectorExpr:
		p.checkFunctionValue(n)
		// The name after the dot was judged with the whole expression.
		p.noValue[n.Sel] = true
	case *ast.Ident:
		p.checkUniverseName(n)
		p.checkFunctionValue(n)
	}
}

func (p *program) checkAssignment(a *ast.AssignStmt) {
	if len(a.Lhs) < 2 {
		return
	}
	for _, left := range a.Lhs {
		if _, local := left.(*ast.Ident); !local {
			p.fault(left, "assignment of several values to an element or field")
		}
	}
}

func (p *program) checkComparison(b *ast.BinaryExpr) {
	for _, side := range []ast.Expr{b.X, b.Y} {
		if p.info.Types[side].IsNil() {
			p.fault(b, "comparison with nil")
		}
	}
}

func (p *program) checkUniverseName(name *ast.Ident) {
	switch name.Name {
	case "any", "error", "comparable", "cap", "panic", "recover",
		"complex", "real", "imag", "complex64", "complex128", "float32", "float64":
		if p.info.Uses[name] == types.Universe.Lookup(name.Name) {
			p.fault(name, name.Name)
		}
	}
}

func (p *program) checkFunctionValue(e ast.Expr) {
	value := p.info.Types[e]
	if name, isName := e.(*ast.Ident); isName && p.info.Uses[name] != nil {
		value.Type = p.info.Uses[name].Type()
	}
	if value.Type == nil || p.noValue[e] {
		return
	}
	if _, isFunction := value.Type.Underlying().(*types.Signature); isFunction {
		p.fault(e, "function value")
	}
}

func TestProgramKeepsToTheLanguage(t *testing.T) {
	names, err := filepath.Glob("../impl/*.go")
	if err != nil || len(names) == 0 {
		t.Fatal("no source of impl", err)
	}
	p := newProgram()
	for _, name := range names {
		p.parse(t, name, nil)
	}
	for _, fault := range p.check() {
		t.Error(fault)
	}
}

func TestLanguageFaultsAreFound(t *testing.T) {
	cases := []struct{ fault, source string }{
		{"import", `import "math"`},
		{"package-level variable", `var table = 1`},
		{"func init", `func init() {}`},
		{"interface type", `type I interface{ F() }`},
		{"type switch", `func F(x any) { switch x.(type) {} }`},
		{"any", `func F(x any) {}`},
		{"error", `func F() error { return nil }`},
		{"closure", `func F() { func() {}() }`},
		{"function type", `func F(g func()) { g() }`},
		{"function type", `type T struct{ G func() }`},
		{"function value", `func G() {}; func F() { g := G; g() }`},
		{"function value", `type T struct{}; func (t T) G() {}; func F() { g := T{}.G; g() }`},
		{"function value", `type T struct{}; func (t T) G() {}; func F() { g := T.G; g(T{}) }`},
		{"map", `func F() { _ = map[int]int{} }`},
		{"goroutine", `func G() {}; func F() { go G() }`},
		{"channel", `func F(c chan int) {}`},
		{"select", `func F() { select {} }`},
		{"defer", `func G() {}; func F() { defer G() }`},
		{"panic", `func F() { panic(1) }`},
		{"recover", `func F() { recover() }`},
		{"goto", `func F() { goto end; end: }`},
		{"generics", `func F[T int](t T) {}`},
		{"generics", `type T[U int] struct{}`},
		{"assignment of several values", `func F(a []int) { a[0], a[1] = a[1], a[0] }`},
		{"assignment of several values", `type T struct{ N int }; func F(t T) int { x := 0; x, t.N = 1, 2; return x }`},
		{"cap", `func F(a []int) int { return cap(a) }`},
		{"three indexes", `func F(a []int) []int { return a[0:1:1] }`},
		{"comparison with nil", `func F(a []int) bool { return a == nil }`},
		{"comparison with nil", `func F(a []int) bool { return nil != a }`},
		{"float64", `func F(x float64) {}`},
		{"float or complex number", `const half = 0.5`},
		{"complex128", `func F() (x complex128) { return x }`},
	}
	for _, c := range cases {
		if !strings.Contains(strings.Join(faultsOf(t, c.source), "\n"), ": "+c.fault) {
			t.Errorf("%s is not found in %s", c.fault, c.source)
		}
	}
}

func TestPermittedLanguageHasNoFaults(t *testing.T) {
	sources := []string{
		`const Max = 3`,
		`type T struct{ A []int }; func (t T) Len() int { return len(t.A) }; func F(t T) int { return t.Len() }`,
		`func F(x int, y int) (int, int) { x, y = y, x; return (F)(x, y) }`,
		`func F(a []int) []int { b := make([]int, 0, len(a)); for _, x := range a { b = append(b, x) }; return b[:1] }`,
		`func F() []int { return nil }`,
		`func F(cap int) int { return cap }`,
	}
	for _, source := range sources {
		for _, fault := range faultsOf(t, source) {
			t.Errorf("%s in %s", fault, source)
		}
	}
}

func faultsOf(t *testing.T, source string) []string {
	t.Helper()
	p := newProgram()
	p.parse(t, "source.go", "package impl; "+source)
	return p.check()
}
