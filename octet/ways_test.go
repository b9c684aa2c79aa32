package octet

import (
	"go/ast"
	"go/parser"
	"go/token"
	"testing"

	"backhaul/api"
)

// That these compile shows that the pair is one of any type, and that a list is passed as variadic arguments.
var (
	_ = Pair[[]string]{Got: []string{"a"}, To: 1}
	_ = Pair[Pair[func()]]{}

	_ func(string, int, int) (Pair[int], api.Errno)        = Get
	_ func(string, int, int) (Pair[string], api.Errno)     = Take
	_ func(string, int, int, int) (Pair[[]int], api.Errno) = Unrow
	_ func(int, ...int) (string, api.Errno)                = Row
)

func TestNumbersAreEncodedOneAfterTheOther(t *testing.T) {
	for _, x := range []struct {
		l    []int
		want string
	}{{nil, ""}, {[]int{258}, "\x01\x02"}, {[]int{1, 258, 0}, "\x00\x01\x01\x02\x00\x00"}} {
		if got, e := encode(2, x.l...); got != x.want || e != api.OK {
			t.Errorf("%v: % x, %d", x.l, got, int(e))
		}
	}
	if got, e := encode(2, 1, 65536, 2); got != "" || e != api.ErrOver {
		t.Errorf("% x, %d", got, int(e))
	}
}

// declarations returns the functions and the types of octet.go by their names.
func declarations(t *testing.T) (map[string]*ast.FuncDecl, map[string]*ast.TypeSpec) {
	t.Helper()
	file, err := parser.ParseFile(token.NewFileSet(), "octet.go", nil, 0)
	if err != nil {
		t.Fatal(err)
	}
	functions, types := map[string]*ast.FuncDecl{}, map[string]*ast.TypeSpec{}
	ast.Inspect(file, func(n ast.Node) bool {
		switch x := n.(type) {
		case *ast.FuncDecl:
			functions[x.Name.Name] = x
		case *ast.TypeSpec:
			types[x.Name.Name] = x
		}
		return true
	})
	return functions, types
}

// passesList reports whether a function passes a list of any length to a variadic function of the package.
func passesList(functions map[string]*ast.FuncDecl, from string) bool {
	found := false
	ast.Inspect(functions[from], func(n ast.Node) bool {
		if call, ok := n.(*ast.CallExpr); ok && call.Ellipsis.IsValid() {
			to, ok := call.Fun.(*ast.Ident)
			found = found || ok && functions[to.Name] != nil
		}
		return true
	})
	return found
}

func TestTheWaysAreThere(t *testing.T) {
	functions, types := declarations(t)
	if pair := types["Pair"]; pair == nil || pair.TypeParams == nil {
		t.Error("Pair is no type with a parameter")
	}
	if !passesList(functions, "Row") {
		t.Error("Row passes its list to no variadic function")
	}
}
