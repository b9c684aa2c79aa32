package cents_test

import (
	"go/ast"
	"go/parser"
	"go/token"
	"testing"

	"backhaul/api"
	"backhaul/cents"
)

// That this compiles shows that amounts are variadic arguments.
var _ func(...int) (int, api.Errno) = cents.Add

func declarations(t *testing.T) map[string]*ast.FuncDecl {
	t.Helper()
	file, err := parser.ParseFile(token.NewFileSet(), "cents.go", nil, 0)
	if err != nil {
		t.Fatal(err)
	}
	all := map[string]*ast.FuncDecl{}
	for _, d := range file.Decls {
		if f, ok := d.(*ast.FuncDecl); ok {
			all[nameOf(f)] = f
		}
	}
	return all
}

// nameOf returns the name of a function, and of a method its type's name, a point and its name.
func nameOf(f *ast.FuncDecl) string {
	if f.Recv == nil {
		return f.Name.Name
	}
	if of, ok := f.Recv.List[0].Type.(*ast.Ident); ok {
		return of.Name + "." + f.Name.Name
	}
	return "*." + f.Name.Name
}

// methodExpressions returns the method expressions that a function reaches by calls, each written as nameOf does.
func methodExpressions(all map[string]*ast.FuncDecl, from string, seen map[string]bool) []string {
	if seen[from] || all[from] == nil {
		return nil
	}
	seen[from] = true
	var found []string
	ast.Inspect(all[from].Body, func(n ast.Node) bool {
		switch x := n.(type) {
		case *ast.Ident:
			found = append(found, methodExpressions(all, x.Name, seen)...)
		case *ast.SelectorExpr:
			if of, ok := x.X.(*ast.Ident); ok && all[of.Name+"."+x.Sel.Name] != nil {
				found = append(found, of.Name+"."+x.Sel.Name)
			}
		}
		return true
	})
	return found
}

func TestWideNumbersAreComparedByAMethodExpression(t *testing.T) {
	all := declarations(t)
	for _, from := range []string{"Times", "Floor", "Half", "Rest"} {
		if found := methodExpressions(all, from, map[string]bool{}); len(found) == 0 {
			t.Errorf("%s compares by no method expression", from)
		}
	}
}
