package quiz

import (
	"errors"
	"go/ast"
	"go/parser"
	"go/token"
	"go/types"
	"slices"
	"testing"
)

// The questions are visited one after the other, each once, and what is handed in decides which of them are chosen.
func TestQuestionsAreChosenByWhatIsHandedIn(t *testing.T) {
	for n := range 9 {
		var visited []int
		got := chosen(n, func(question int) bool {
			visited = append(visited, question)
			return question%3 == 1
		})
		var all, want []int
		for i := 0; i < n; i++ {
			all = append(all, i)
			if i == 1 || i == 4 || i == 7 {
				want = append(want, i)
			}
		}
		if !slices.Equal(visited, all) || !slices.Equal(got, want) {
			t.Errorf("of %d questions %v are visited and %v chosen, want %v", n, visited, got, want)
		}
	}
}

// nothing imports no package: what a range is over is told without the packages below.
type nothing struct{}

func (nothing) Import(string) (*types.Package, error) { return nil, errors.New("not imported") }

// program returns the functions of quiz.go by their names, and the types of what is in them.
func program(t *testing.T) (map[string]*ast.FuncDecl, *types.Info) {
	t.Helper()
	fset := token.NewFileSet()
	file, err := parser.ParseFile(fset, "quiz.go", nil, 0)
	if err != nil {
		t.Fatal(err)
	}
	info := &types.Info{Types: map[ast.Expr]types.TypeAndValue{}}
	config := types.Config{Importer: nothing{}, Error: func(error) {}}
	// That nothing is imported gives errors, beside the types that are asked for.
	_, _ = config.Check("quiz", fset, []*ast.File{file}, info)
	all := map[string]*ast.FuncDecl{}
	for _, d := range file.Decls {
		if f, ok := d.(*ast.FuncDecl); ok {
			all[f.Name.Name] = f
		}
	}
	return all, info
}

// reaches reports whether there is something in a function, or in one that it names, or so on.
func reaches(all map[string]*ast.FuncDecl, from string, is func(n ast.Node) bool) bool {
	seen := map[string]bool{}
	var visit func(name string) bool
	visit = func(name string) bool {
		if all[name] == nil || seen[name] {
			return false
		}
		seen[name] = true
		found := false
		ast.Inspect(all[name].Body, func(n ast.Node) bool {
			found = found || n != nil && is(n)
			if id, ok := n.(*ast.Ident); ok {
				found = found || visit(id.Name)
			}
			return !found
		})
		return found
	}
	return visit(from)
}

func TestQuestionsAreVisitedByARangeOverAnInteger(t *testing.T) {
	all, info := program(t)
	overInteger := func(n ast.Node) bool {
		r, ok := n.(*ast.RangeStmt)
		return ok && info.Types[r.X].Type != nil && info.Types[r.X].Type.String() == "int"
	}
	for _, from := range []string{"Score", "Failed", "Worst"} {
		if !reaches(all, from, overInteger) {
			t.Errorf("%s ranges over no integer", from)
		}
	}
}

// testsABit reports whether a part of the program is a closure that shifts a number and masks it.
func testsABit(n ast.Node) bool {
	closure, ok := n.(*ast.FuncLit)
	if !ok {
		return false
	}
	var shifts, masks bool
	ast.Inspect(closure, func(n ast.Node) bool {
		if b, ok := n.(*ast.BinaryExpr); ok {
			shifts = shifts || b.Op == token.SHR || b.Op == token.SHL
			masks = masks || b.Op == token.AND || b.Op == token.AND_NOT
		}
		return true
	})
	return shifts && masks
}

func TestABitIsTestedByAClosure(t *testing.T) {
	all, _ := program(t)
	for _, from := range []string{"Score", "Failed", "Worst"} {
		if !reaches(all, from, testsABit) {
			t.Errorf("%s tests a bit by no closure", from)
		}
	}
}
