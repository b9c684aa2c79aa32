package grade

import (
	"go/ast"
	"go/parser"
	"go/token"
	"slices"
	"testing"

	"backhaul/api"
)

// That these compile shows that counts are kept in arrays.
var (
	_ func(asks, cuts []int) ([4]int, api.Errno)         = Count
	_ func(asks, cuts []int) ([4]bool, api.Errno)        = Reached
	_ func(asks []int, grade func(score int) int) [4]int = tally
)

// The score of each of the answers is graded once, by what is handed in.
func TestAnswersAreCountedByWhatIsHandedIn(t *testing.T) {
	var graded []int
	counts := tally([]int{1, 20, 300}, func(score int) int {
		graded = append(graded, score)
		return score % 100 / 20
	})
	slices.Sort(graded)
	if !slices.Equal(graded, []int{0, 1, 20, 21, 300, 301, 320, 321}) || counts != [4]int{4, 4, 0, 0} {
		t.Errorf("%v are graded, and counted as %v", graded, counts)
	}
	for of := range 4 {
		counts = tally([]int{0, 0, 0, 0, 0, 0, 0, 0}, func(int) int { return of })
		for grade, n := range counts {
			if grade == of && n != 256 || grade != of && n != 0 {
				t.Errorf("256 answers with the grade %d are counted as %v", of, counts)
			}
		}
	}
}

func TestAMethodValueKeepsTheCuts(t *testing.T) {
	grade, other := scale{0, 5, 20}.grade, scale{5, 5, 8000}.grade
	for score, want := range map[int][2]int{0: {0, 0}, 1: {1, 0}, 5: {1, 0}, 6: {2, 2}, 20: {2, 2}, 21: {3, 2}, 8000: {3, 2}} {
		if grade(score) != want[0] || other(score) != want[1] {
			t.Errorf("%d has the grades %d and %d, want %v", score, grade(score), other(score), want)
		}
	}
}

// functions returns the functions and methods of grade.go by their names.
func functions(t *testing.T) map[string]*ast.FuncDecl {
	t.Helper()
	file, err := parser.ParseFile(token.NewFileSet(), "grade.go", nil, 0)
	if err != nil {
		t.Fatal(err)
	}
	all := map[string]*ast.FuncDecl{}
	for _, d := range file.Decls {
		if f, ok := d.(*ast.FuncDecl); ok {
			all[f.Name.Name] = f
		}
	}
	return all
}

// passesMethodValue reports whether a function of the package is called with a method of the package, and as a value.
func passesMethodValue(all map[string]*ast.FuncDecl, call *ast.CallExpr) bool {
	to, ok := call.Fun.(*ast.Ident)
	if !ok || all[to.Name] == nil {
		return false
	}
	return slices.ContainsFunc(call.Args, func(e ast.Expr) bool {
		of, ok := e.(*ast.SelectorExpr)
		return ok && all[of.Sel.Name] != nil && all[of.Sel.Name].Recv != nil
	})
}

func TestGradesAreComputedByAMethodValue(t *testing.T) {
	all := functions(t)
	found := false
	ast.Inspect(all["Count"], func(n ast.Node) bool {
		if call, ok := n.(*ast.CallExpr); ok {
			found = found || passesMethodValue(all, call)
		}
		return true
	})
	if !found {
		t.Error("Count grades by no method value")
	}
}

func TestCountsAreKeptInAnArray(t *testing.T) {
	var arrays int
	for name, f := range functions(t) {
		ast.Inspect(f.Body, func(n ast.Node) bool {
			v, ok := n.(*ast.ValueSpec)
			if !ok {
				return true
			}
			if array, ok := v.Type.(*ast.ArrayType); ok && array.Len != nil && (name == "tally" || name == "Reached") {
				arrays++
			}
			return true
		})
	}
	if arrays != 2 {
		t.Errorf("%d arrays hold what is counted and reached, want 2", arrays)
	}
}
