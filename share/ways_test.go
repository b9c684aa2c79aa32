package share

import (
	"go/ast"
	"go/parser"
	"go/token"
	"slices"
	"testing"
)

func TestIndicesAreSortedByAnyTypeOfKey(t *testing.T) {
	words := []string{"b", "c", "", "b", "c", "a"}
	if got, want := greatestFirst(len(words), func(i int) string { return words[i] }), []int{1, 4, 0, 3, 5, 2}; !slices.Equal(got, want) {
		t.Errorf("by words: %v, want %v", got, want)
	}
	halves := []float64{0.5, 2, -1, 2}
	if got, want := greatestFirst(len(halves), func(i int) float64 { return halves[i] }), []int{1, 3, 0, 2}; !slices.Equal(got, want) {
		t.Errorf("by halves: %v, want %v", got, want)
	}
	if got := greatestFirst(0, func(i int) int { return i }); len(got) != 0 {
		t.Errorf("of nothing: %v", got)
	}
}

// functions returns the functions of share.go by their names.
func functions(t *testing.T) map[string]*ast.FuncDecl {
	t.Helper()
	file, err := parser.ParseFile(token.NewFileSet(), "share.go", nil, 0)
	if err != nil {
		t.Fatal(err)
	}
	all := map[string]*ast.FuncDecl{}
	for _, d := range file.Decls {
		if f, ok := d.(*ast.FuncDecl); ok {
			all[f.Name.Name] = f
		}
	}
	return all
}

// sortsByClosure reports whether a function, or one that it calls, calls a function for any type of key with a closure.
func sortsByClosure(all map[string]*ast.FuncDecl, from string, seen map[string]bool) bool {
	if seen[from] || all[from] == nil {
		return false
	}
	seen[from] = true
	found := false
	ast.Inspect(all[from].Body, func(n ast.Node) bool {
		call, ok := n.(*ast.CallExpr)
		if !ok {
			return true
		}
		to, ok := call.Fun.(*ast.Ident)
		if !ok {
			return true
		}
		if f := all[to.Name]; f != nil && f.Type.TypeParams != nil {
			found = found || slices.ContainsFunc(call.Args, isClosure)
		}
		found = found || sortsByClosure(all, to.Name, seen)
		return true
	})
	return found
}

func isClosure(e ast.Expr) bool {
	_, ok := e.(*ast.FuncLit)
	return ok
}

func TestSharesAreSortedByAClosure(t *testing.T) {
	all := functions(t)
	for _, from := range []string{"Out", "Place", "Evenly"} {
		if !sortsByClosure(all, from, map[string]bool{}) {
			t.Errorf("%s sorts by no closure", from)
		}
	}
}
