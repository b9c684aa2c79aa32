package slot

import (
	"go/ast"
	"go/parser"
	"go/token"
	"testing"
)

// function returns the declaration of a function of slot.go.
func function(t *testing.T, name string) *ast.FuncDecl {
	t.Helper()
	file, err := parser.ParseFile(token.NewFileSet(), "slot.go", nil, 0)
	if err != nil {
		t.Fatal(err)
	}
	for _, d := range file.Decls {
		if f, ok := d.(*ast.FuncDecl); ok && f.Name.Name == name {
			return f
		}
	}
	t.Fatalf("%s is not there", name)
	return nil
}

// Each array of Choose has two elements: one for each slot.
func TestBothSlotsAreKeptInAnArray(t *testing.T) {
	arrays := 0
	ast.Inspect(function(t, "Choose"), func(n ast.Node) bool {
		if array, ok := n.(*ast.ArrayType); ok {
			arrays++
			length, ok := array.Len.(*ast.BasicLit)
			if !ok || length.Value != "2" {
				t.Error("Choose keeps the slots in something else than an array of two")
			}
		}
		return true
	})
	if arrays == 0 {
		t.Error("Choose has no array of both slots")
	}
}

// decodes reports whether octet.Get is called in a part of the program.
func decodes(part ast.Node) bool {
	found := false
	ast.Inspect(part, func(n ast.Node) bool {
		if call, ok := n.(*ast.CallExpr); ok {
			to, ok := call.Fun.(*ast.SelectorExpr)
			if !ok {
				return true
			}
			of, ok := to.X.(*ast.Ident)
			found = found || ok && of.Name == "octet" && to.Sel.Name == "Get"
		}
		return true
	})
	return found
}

func TestNumbersAreDecodedByAClosure(t *testing.T) {
	found := false
	ast.Inspect(function(t, "Get"), func(n ast.Node) bool {
		if closure, ok := n.(*ast.FuncLit); ok {
			found = found || decodes(closure)
		}
		return true
	})
	if !found {
		t.Error("Get decodes its numbers by no closure")
	}
}
