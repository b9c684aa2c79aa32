package rows

import (
	"go/ast"
	"go/parser"
	"go/token"
	"slices"
	"testing"

	"backhaul/api"
)

// That these compile shows that the functions are for any type.
var (
	_ func([]func(), int, func()) ([]func(), api.Errno)       = With
	_ func([][]string, int, []string) ([][]string, api.Errno) = Set
	_ func([]chan int, int) ([]chan int, api.Errno)           = Without
	_ func([]map[string]int, int) []map[string]int            = Last
)

// The value goes to new memory, although the list has room for it, and the elements behind the index stay there.
func TestTheElementsUpToAnIndexAreCopied(t *testing.T) {
	memory := []string{"a", "b", "c", "d"}
	for at := range 4 {
		got := upTo(memory[:3], at, "x")
		if !slices.Equal(got, append(slices.Clone(memory[:at]), "x")) {
			t.Errorf("up to %d: %q", at, got)
		}
		got[0] = "written"
		if !slices.Equal(memory, []string{"a", "b", "c", "d"}) {
			t.Fatalf("up to %d: the list is %q", at, memory)
		}
	}
	if got := upTo(nil, 0, 7); !slices.Equal(got, []int{7}) {
		t.Errorf("of no elements: %v", got)
	}
}

// functions returns the functions of rows.go by their names.
func functions(t *testing.T) map[string]*ast.FuncDecl {
	t.Helper()
	file, err := parser.ParseFile(token.NewFileSet(), "rows.go", nil, 0)
	if err != nil {
		t.Fatal(err)
	}
	all := map[string]*ast.FuncDecl{}
	for _, d := range file.Decls {
		if f, ok := d.(*ast.FuncDecl); ok {
			all[f.Name.Name] = f
		}
	}
	return all
}

// slicesWithThree reports whether a function, or one that it calls, is for any type and slices a list with three indexes.
func slicesWithThree(all map[string]*ast.FuncDecl, from string, seen map[string]bool) bool {
	f := all[from]
	if seen[from] || f == nil {
		return false
	}
	seen[from] = true
	found := false
	ast.Inspect(f.Body, func(n ast.Node) bool {
		switch x := n.(type) {
		case *ast.SliceExpr:
			found = found || x.Slice3 && f.Type.TypeParams != nil
		case *ast.CallExpr:
			if to, ok := x.Fun.(*ast.Ident); ok {
				found = found || slicesWithThree(all, to.Name, seen)
			}
		}
		return true
	})
	return found
}

func TestListsAreSlicedWithThreeIndexes(t *testing.T) {
	all := functions(t)
	for _, from := range []string{"With", "Set"} {
		if !slicesWithThree(all, from, map[string]bool{}) {
			t.Errorf("%s slices no list with three indexes", from)
		}
	}
}

func TestFunctionsAreForAnyType(t *testing.T) {
	all := functions(t)
	for _, name := range []string{"With", "Set", "Without", "Last"} {
		if all[name] == nil || all[name].Type.TypeParams == nil {
			t.Errorf("%s is for no type", name)
		}
	}
}
