package index

import (
	"go/ast"
	"go/parser"
	"go/token"
	"iter"
	"slices"
	"strconv"
	"testing"

	"backhaul/api"
)

// That these compile shows that ids are passed as variadic arguments, and that pairs can be iterated by a range over a function.
var (
	_ func(Index, string, ...int) (Index, api.Errno) = Add
	_ func(Index) iter.Seq2[string, int]             = pairs
)

func TestIdsAreVariadicArguments(t *testing.T) {
	none, e := Add(Index{}, "A")
	if e != api.OK || Count(none) != 0 {
		t.Errorf("of no ids: %v, %d", none, int(e))
	}
	one, e := Add(Index{}, "A", 1, 3, 2)
	if e != api.OK || !slices.Equal(Of(one, "A"), []int{1, 2, 3}) {
		t.Errorf("of three ids: %v, %d", one, int(e))
	}
	two, e := Add(Index{}, "A", []int{1, 3, 2}...)
	if e != api.OK || !slices.Equal(Of(two, "A"), []int{1, 2, 3}) {
		t.Errorf("of a list of ids: %v, %d", two, int(e))
	}
}

// Pairs are produced in the order of their serials and then of their ids, and no further than is asked for.
func TestPairsAreProduced(t *testing.T) {
	x := Index{Keys: []string{"A", "B", "C"}, Ids: [][]int{{1, 3}, {2}, {1, 2, api.MaxId}}}
	want := []string{"A 1", "A 3", "B 2", "C 1", "C 2", "C 999999"}
	for n := 1; n <= len(want)+1; n++ {
		var got []string
		for s, id := range pairs(x) {
			if got = append(got, s+" "+strconv.Itoa(id)); len(got) == n {
				break
			}
		}
		if !slices.Equal(got, want[:min(n, len(want))]) {
			t.Errorf("%d pairs are %q", n, got)
		}
	}
	// The same closure produces them again.
	produce, count := pairs(x), 0
	for range 2 {
		for range produce {
			count++
		}
	}
	if count != 2*len(want) {
		t.Errorf("produced twice, there are %d pairs", count)
	}
}

func TestAnIndexThatIsNotValidHasNoPairs(t *testing.T) {
	for _, x := range []Index{
		{},
		{Keys: []string{"A"}},
		{Ids: [][]int{{1}}},
		{Keys: []string{"A", "B"}, Ids: [][]int{{1}, nil}},
		{Keys: []string{"A", "B"}, Ids: [][]int{{1}, {2, 2}}},
		{Keys: []string{"A", "b"}, Ids: [][]int{{1}, {2}}},
		{Keys: []string{"A", "A"}, Ids: [][]int{{1}, {2}}},
		{Keys: []string{"A"}, Ids: [][]int{{1}, {2}}},
	} {
		for s, id := range pairs(x) {
			t.Errorf("%v has %q under %d", x, s, id)
		}
	}
}

// functions returns the functions of index.go by their names.
func functions(t *testing.T) map[string]*ast.FuncDecl {
	t.Helper()
	file, err := parser.ParseFile(token.NewFileSet(), "index.go", nil, 0)
	if err != nil {
		t.Fatal(err)
	}
	all := map[string]*ast.FuncDecl{}
	for _, d := range file.Decls {
		if f, ok := d.(*ast.FuncDecl); ok {
			all[f.Name.Name] = f
		}
	}
	return all
}

// calls reports whether a part of the program calls a function by its name.
func calls(part ast.Node, name string) bool {
	found := false
	ast.Inspect(part, func(n ast.Node) bool {
		if call, ok := n.(*ast.CallExpr); ok {
			to, ok := call.Fun.(*ast.Ident)
			found = found || ok && to.Name == name
		}
		return true
	})
	return found
}

// producesPairs reports whether a part of the program has a closure that hands something to the function that it is given.
func producesPairs(part ast.Node) bool {
	found := false
	ast.Inspect(part, func(n ast.Node) bool {
		closure, ok := n.(*ast.FuncLit)
		if !ok {
			return true
		}
		for _, p := range closure.Type.Params.List {
			for _, name := range p.Names {
				found = found || calls(closure.Body, name.Name)
			}
		}
		return true
	})
	return found
}

// rangesOverPairs reports whether a part of the program ranges over pairs.
func rangesOverPairs(part ast.Node) bool {
	found := false
	ast.Inspect(part, func(n ast.Node) bool {
		if loop, ok := n.(*ast.RangeStmt); ok {
			found = found || calls(loop.X, "pairs")
		}
		return true
	})
	return found
}

func TestPairsAreProducedByAClosure(t *testing.T) {
	all := functions(t)
	if !producesPairs(all["pairs"]) {
		t.Error("pairs produces them by no closure")
	}
	for _, name := range []string{"Of", "Count", "Under"} {
		if !rangesOverPairs(all[name]) {
			t.Errorf("%s ranges over no pairs", name)
		}
	}
}
