package fee

import (
	"go/ast"
	"go/parser"
	"go/token"
	"slices"
	"testing"

	"backhaul/api"
)

// That this compiles shows that what is left for all grades is an array.
var _ func(int, []int) ([4]int, api.Errno) = All

func TestWhatIsLeftIsKeptInTheOrderOfTheFees(t *testing.T) {
	var asked []int
	all, e := forEach([]int{7, 8, 8, 9}, func(basis int) (int, api.Errno) {
		asked = append(asked, basis)
		return 10 * basis, api.OK
	})
	if all != [4]int{70, 80, 80, 90} || e != api.OK || !slices.Equal(asked, []int{7, 8, 8, 9}) {
		t.Errorf("%v, %d, of %v", all, int(e), asked)
	}
}

func TestNothingIsLeftBesideAnError(t *testing.T) {
	for wrong := range 4 {
		all, e := forEach([]int{0, 1, 2, 3}, func(basis int) (int, api.Errno) {
			if basis == wrong {
				return 0, api.ErrOver
			}
			return 5, api.OK
		})
		if all != [4]int{} || e != api.ErrOver {
			t.Errorf("with an error at %d: %v, %d", wrong, all, int(e))
		}
	}
}

func TestAMethodValueKeepsTheAmount(t *testing.T) {
	left := price(1005).less
	for basis, want := range map[int]int{0: 1005, 1000: 904, 10000: 0} {
		if got, e := left(basis); got != want || e != api.OK {
			t.Errorf("of 1005 with %d: %d, %d, want %d", basis, got, int(e), want)
		}
	}
}

// functions returns the functions and methods of fee.go by their names.
func functions(t *testing.T) map[string]*ast.FuncDecl {
	t.Helper()
	file, err := parser.ParseFile(token.NewFileSet(), "fee.go", nil, 0)
	if err != nil {
		t.Fatal(err)
	}
	all := map[string]*ast.FuncDecl{}
	for _, d := range file.Decls {
		if f, ok := d.(*ast.FuncDecl); ok {
			all[f.Name.Name] = f
		}
	}
	return all
}

// passesMethodValue reports whether a function of the package is called with a method of the package, and as a value.
func passesMethodValue(all map[string]*ast.FuncDecl, call *ast.CallExpr) bool {
	to, ok := call.Fun.(*ast.Ident)
	if !ok || all[to.Name] == nil {
		return false
	}
	return slices.ContainsFunc(call.Args, func(e ast.Expr) bool {
		of, ok := e.(*ast.SelectorExpr)
		return ok && all[of.Sel.Name] != nil && all[of.Sel.Name].Recv != nil
	})
}

func TestAllIsComputedByAMethodValue(t *testing.T) {
	all := functions(t)
	found := false
	ast.Inspect(all["All"], func(n ast.Node) bool {
		if call, ok := n.(*ast.CallExpr); ok {
			found = found || passesMethodValue(all, call)
		}
		return true
	})
	if !found {
		t.Error("All computes by no method value")
	}
}
