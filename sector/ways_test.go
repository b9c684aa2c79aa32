package sector

import (
	"go/ast"
	"go/parser"
	"go/token"
	"maps"
	"slices"
	"strings"
	"testing"

	"backhaul/api"
)

// That this compiles shows that the durable contents are kept in a map, by the numbers of sectors.
var _ map[int]contents = Device{}.durable

// filled returns the contents of a sector that has one byte 64 times.
func filled(b byte) contents {
	var c contents
	copy(c[:], strings.Repeat(string([]byte{b}), len(c)))
	return c
}

// The map holds the durable contents of the loose sectors, and of no others.
func TestTheMapHoldsTheDurableContents(t *testing.T) {
	d, e := New(3)
	if e != api.OK {
		t.Fatal(int(e))
	}
	a, b := filled('a'), filled('b')
	for i, step := range []struct {
		do   func() api.Errno
		want map[int]contents
	}{
		{func() api.Errno { return d.Write(1, string(a[:])) }, map[int]contents{1: {}}},
		{func() api.Errno { return d.Write(1, string(b[:])) }, map[int]contents{1: {}}},
		{d.Flush, map[int]contents{}},
		{func() api.Errno { return d.Write(0, string(a[:])+string(a[:])) }, map[int]contents{0: {}, 1: b}},
		{d.Off, map[int]contents{0: {}, 1: b}},
		{func() api.Errno { return d.Boot(api.Choice{Keep: []bool{true}}) }, map[int]contents{}},
	} {
		if e := step.do(); e != api.OK {
			t.Fatalf("step %d: %d", i, int(e))
		}
		if !maps.Equal(d.durable, step.want) {
			t.Errorf("step %d: the map holds %v", i, slices.Sorted(maps.Keys(d.durable)))
		}
	}
}

// calls returns the calls of a name that the functions of sector.go contain.
func calls(t *testing.T, name string) []*ast.CallExpr {
	t.Helper()
	file, err := parser.ParseFile(token.NewFileSet(), "sector.go", nil, 0)
	if err != nil {
		t.Fatal(err)
	}
	var l []*ast.CallExpr
	ast.Inspect(file, func(n ast.Node) bool {
		if call, ok := n.(*ast.CallExpr); ok {
			if to, ok := call.Fun.(*ast.Ident); ok && to.Name == name {
				l = append(l, call)
			}
		}
		return true
	})
	return l
}

func TestDurableContentsAreDeleted(t *testing.T) {
	for _, call := range calls(t, "delete") {
		if of, ok := call.Args[0].(*ast.SelectorExpr); ok && of.Sel.Name == "durable" {
			return
		}
	}
	t.Error("nothing is deleted from the map of durable contents")
}

// A torn sector gets the rest of its durable contents: both are cut alike.
func TestATornSectorIsWrittenByCopy(t *testing.T) {
	for _, call := range calls(t, "copy") {
		to, ok := call.Args[0].(*ast.SliceExpr)
		from, alike := call.Args[1].(*ast.SliceExpr)
		if ok && alike && to.Low != nil && from.Low != nil {
			return
		}
	}
	t.Error("no torn sector is written by copy")
}
