package frame

import (
	"go/ast"
	"go/parser"
	"go/token"
	"iter"
	"strings"
	"testing"

	"backhaul/api"
)

// That this compiles shows that frames can be iterated by a range over a function.
var _ iter.Seq2[Frame, int] = frames("")

// put returns the sectors of a frame that there is.
func put(t *testing.T, f Frame) string {
	t.Helper()
	s, e := Put(f)
	if e != api.OK {
		t.Fatal(int(e))
	}
	return s
}

// Frames are iterated up to the first sector that begins none, whatever their epochs and numbers are, and no further than is asked for.
func TestFramesAreIterated(t *testing.T) {
	all := []Frame{{Epoch: 9, Seq: 7, Body: "a"}, {Epoch: 1, Seq: 1, Body: strings.Repeat("b", 107)}, {Epoch: 9, Seq: 7, Body: ""}}
	s := ""
	for _, f := range all {
		s += put(t, f)
	}
	for n := 1; n <= 4; n++ {
		for _, behind := range []string{"", strings.Repeat("\x00", 64), strings.Repeat("\x00", 64) + s} {
			i, end := 0, 0
			for f, to := range frames(s + behind) {
				end += Sectors(all[i].Body)
				if f != all[i] || to != end {
					t.Errorf("frame %d is %v, and ends at %d, not at %d", i, f, to, end)
				}
				if i++; i == n {
					break
				}
			}
			if i != min(n, 3) {
				t.Errorf("there are %d frames, want %d", i, min(n, 3))
			}
		}
	}
	for f := range frames(strings.Repeat("\x00", 64) + s) {
		t.Errorf("%v does not begin at sector 0", f)
	}
}

func TestThePaddingFillsThePieces(t *testing.T) {
	for n := 1; n < 50; n++ {
		padding := paddingTo(n)
		for length := 63*n - 63; length <= 63*n; length++ {
			if got := padding(strings.Repeat("x", length)); got != strings.Repeat("\x00", 63*n-length) {
				t.Errorf("%d bytes are padded by % x to %d sectors", length, got, n)
			}
		}
	}
}

// function returns the declaration of a function of frame.go.
func function(t *testing.T, name string) *ast.FuncDecl {
	t.Helper()
	file, err := parser.ParseFile(token.NewFileSet(), "frame.go", nil, 0)
	if err != nil {
		t.Fatal(err)
	}
	for _, d := range file.Decls {
		if f, ok := d.(*ast.FuncDecl); ok && f.Name.Name == name {
			return f
		}
	}
	t.Fatalf("%s is not there", name)
	return nil
}

// isCall reports whether a part of the program is a call of a function of frame.go.
func isCall(part ast.Node, name string) bool {
	call, ok := part.(*ast.CallExpr)
	if !ok {
		return false
	}
	to, ok := call.Fun.(*ast.Ident)
	return ok && to.Name == name
}

// has reports whether a function of frame.go contains a part.
func has(t *testing.T, name string, is func(part ast.Node) bool) bool {
	t.Helper()
	found := false
	ast.Inspect(function(t, name), func(n ast.Node) bool {
		found = found || n != nil && is(n)
		return true
	})
	return found
}

func TestScanRangesOverTheFrames(t *testing.T) {
	if !has(t, "Scan", func(n ast.Node) bool {
		loop, ok := n.(*ast.RangeStmt)
		return ok && isCall(loop.X, "frames")
	}) {
		t.Error("Scan has no range over the function of the frames")
	}
	if has(t, "Scan", func(n ast.Node) bool { return isCall(n, "Get") }) {
		t.Error("Scan gets frames beside its range")
	}
}

func TestThePaddingIsComputedByAClosure(t *testing.T) {
	if !has(t, "paddingTo", func(n ast.Node) bool {
		_, ok := n.(*ast.FuncLit)
		return ok
	}) {
		t.Error("paddingTo returns no closure")
	}
	for _, name := range []string{"Put", "Get"} {
		if !has(t, name, func(n ast.Node) bool { return isCall(n, "paddingTo") }) {
			t.Errorf("%s has no padding from the closure", name)
		}
	}
}
