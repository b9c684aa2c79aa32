package strict

import (
	"go/ast"
	"go/parser"
	"go/token"
	"testing"

	"backhaul/api"
	"backhaul/octet"
)

// Values of any type are read by a function that is handed in, as a method value is.
func TestAValueOfAnyTypeIsRead(t *testing.T) {
	r := New("\x07\x08\x09")
	two := func(s string, at int) (octet.Pair[[2]byte], api.Errno) {
		if len(s)-at < 2 {
			return octet.Pair[[2]byte]{Got: [2]byte{1, 1}, To: 99}, api.ErrShort
		}
		return octet.Pair[[2]byte]{Got: [2]byte{s[at], s[at+1]}, To: at + 2}, api.OK
	}
	if got := read(r, two); got != [2]byte{7, 8} || r.At() != 2 || r.Err() != nil {
		t.Errorf("%v at %d, fault %v", got, r.At(), r.Err())
	}
	// Beside an error nothing is read, whatever the function returns.
	for range 2 {
		if got := read(r, two); got != [2]byte{} || r.At() != 2 || r.Err() != error(Fault{Err: api.ErrShort, At: 2}) {
			t.Errorf("%v at %d, fault %v", got, r.At(), r.Err())
		}
	}
}

func TestAMethodValueKeepsItsLimits(t *testing.T) {
	number := limits{width: 2, most: 258}.number
	for s, want := range map[string]api.Errno{"\x01\x02": api.OK, "\x01\x03": api.ErrBig, "\x01": api.ErrShort} {
		if got, e := number(s, 0); e != want || got.Got != 0 != (e == api.OK) {
			t.Errorf("% x: %v, %d, want %d", s, got, int(e), int(want))
		}
	}
}

// functions returns the functions and methods of strict.go by their names.
func functions(t *testing.T) map[string]*ast.FuncDecl {
	t.Helper()
	file, err := parser.ParseFile(token.NewFileSet(), "strict.go", nil, 0)
	if err != nil {
		t.Fatal(err)
	}
	all := map[string]*ast.FuncDecl{}
	for _, d := range file.Decls {
		if f, ok := d.(*ast.FuncDecl); ok {
			all[f.Name.Name] = f
		}
	}
	return all
}

// asserts reports whether a function asserts the type of something.
func asserts(f *ast.FuncDecl) bool {
	found := false
	ast.Inspect(f, func(n ast.Node) bool {
		switch n.(type) {
		case *ast.TypeAssertExpr, *ast.TypeSwitchStmt:
			found = true
		}
		return true
	})
	return found
}

// called returns the functions of the package that a function calls by their names.
func called(all map[string]*ast.FuncDecl, f *ast.FuncDecl) []*ast.FuncDecl {
	var l []*ast.FuncDecl
	ast.Inspect(f, func(n ast.Node) bool {
		if call, ok := n.(*ast.CallExpr); ok {
			if to, ok := call.Fun.(*ast.Ident); ok && all[to.Name] != nil {
				l = append(l, all[to.Name])
			}
		}
		return true
	})
	return l
}

// An exported function asserts nothing itself on what comes in to it: an inner function does.
func TestTheTypeOfAnErrorIsAsserted(t *testing.T) {
	all := functions(t)
	for _, name := range []string{"Why", "Must"} {
		found := false
		for _, f := range called(all, all[name]) {
			found = found || asserts(f)
		}
		if !found || asserts(all[name]) {
			t.Errorf("%s: asserted by an inner function: %t, by itself: %t", name, found, asserts(all[name]))
		}
	}
}

// passesMethodValue reports whether a function passes a method of the package as a value to a function of the package.
func passesMethodValue(all map[string]*ast.FuncDecl, from *ast.FuncDecl) bool {
	found := false
	ast.Inspect(from, func(n ast.Node) bool {
		call, ok := n.(*ast.CallExpr)
		if !ok {
			return true
		}
		if to, ok := call.Fun.(*ast.Ident); !ok || all[to.Name] == nil {
			return true
		}
		for _, e := range call.Args {
			of, ok := e.(*ast.SelectorExpr)
			found = found || ok && all[of.Sel.Name] != nil && all[of.Sel.Name].Recv != nil
		}
		return true
	})
	return found
}

func TestValuesAreReadByMethodValues(t *testing.T) {
	all := functions(t)
	for _, name := range []string{"Num", "Text", "Row"} {
		if !passesMethodValue(all, all[name]) {
			t.Errorf("%s reads by no method value", name)
		}
	}
}
