package crc

import (
	"go/ast"
	"go/parser"
	"go/token"
	"testing"
)

// That this compiles shows that the updates are kept in an array of sixteen.
var _ [16]uint32 = halves

// Each of the updates is that of the checksum 0 by the four bits of its index, bit by bit.
func TestTheUpdatesByHalfAByte(t *testing.T) {
	for half, got := range halves {
		want := uint32(0)
		for bit := range 4 {
			x := want&1 ^ uint32(half)>>bit&1
			want >>= 1
			if x == 1 {
				want ^= 0x82f63b78
			}
		}
		if got != want {
			t.Errorf("by %04b: %08x, want %08x", half, got, want)
		}
	}
}

// on returns the declaration of On.
func on(t *testing.T) *ast.FuncDecl {
	t.Helper()
	file, err := parser.ParseFile(token.NewFileSet(), "crc.go", nil, 0)
	if err != nil {
		t.Fatal(err)
	}
	for _, d := range file.Decls {
		if f, ok := d.(*ast.FuncDecl); ok && f.Name.Name == "On" {
			return f
		}
	}
	t.Fatal("On is not there")
	return nil
}

// takesUpdate reports whether the array of updates is indexed in a part of the program.
func takesUpdate(part ast.Node) bool {
	found := false
	ast.Inspect(part, func(n ast.Node) bool {
		if index, ok := n.(*ast.IndexExpr); ok {
			of, ok := index.X.(*ast.Ident)
			found = found || ok && of.Name == "halves"
		}
		return true
	})
	return found
}

func TestUpdatesAreAppliedByAClosure(t *testing.T) {
	found := false
	ast.Inspect(on(t), func(n ast.Node) bool {
		if closure, ok := n.(*ast.FuncLit); ok {
			found = found || takesUpdate(closure)
		}
		return true
	})
	if !found {
		t.Error("On applies the updates by no closure")
	}
}
