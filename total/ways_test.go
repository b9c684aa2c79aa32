package total

import (
	"go/ast"
	"go/parser"
	"go/token"
	"slices"
	"testing"

	"backhaul/api"
	"backhaul/rule"
)

// That these compile shows that cells are kept in arrays, and that what is covered is computed by a closure.
var (
	_ func([]api.Row) ([8]int, api.Errno)          = Cells
	_ func([]api.Row) [8][]api.Row                 = byCell
	_ func([]api.Row) func(cell, from int) int     = firstFree
	_ func(api.Row, func(cell, from int) int) bool = isDead
)

func TestTheFactsOfEachCell(t *testing.T) {
	for cell, want := range []rule.Facts{{Grade: 0}, {Grade: 0, Warranty: true}, {Grade: 1}, {Grade: 1, Warranty: true}, {Grade: 2}, {Grade: 2, Warranty: true}, {Grade: 3}, {Grade: 3, Warranty: true}} {
		for _, amount := range []int{0, 7, api.MaxCents} {
			want.Amount = amount
			if f := factsOf(cell, amount); f != want {
				t.Errorf("the facts of the cell %d with the amount %d are %v", cell, amount, f)
			}
		}
	}
}

func TestRowsAreKeptByTheirCellsInTheirOrder(t *testing.T) {
	one, two, three := api.Row{Grades: 9, Warranty: 2, Lo: 7, Hi: 9, Way: api.Scrap}, api.Row{Grades: 8, Warranty: 3, Lo: 0, Hi: 0, Way: api.Vendor}, api.Row{Grades: 8, Warranty: 2, Lo: 3, Hi: 4, Way: api.Vendor}
	all := byCell([]api.Row{one, two, three})
	for cell, want := range [8][]api.Row{1: {one}, 6: {two}, 7: {one, two, three}} {
		if !slices.Equal(all[cell], want) {
			t.Errorf("the cell %d has the rows %v, want %v", cell, all[cell], want)
		}
	}
}

// The closure knows the rows that it was made of, whatever becomes of them, and of no others.
func TestAClosureKeepsTheRows(t *testing.T) {
	l := []api.Row{{Grades: 3, Warranty: 3, Lo: 50, Hi: 70, Way: api.Scrap}, {Grades: 1, Warranty: 1, Lo: 60, Hi: 99, Way: api.Scrap}, {Grades: 15, Warranty: 1, Lo: 0, Hi: 49, Way: api.Scrap}}
	free, none := firstFree(l), firstFree(nil)
	clear(l)
	for _, x := range []struct{ cell, from, want int }{
		{0, 0, 100}, {0, 49, 100}, {0, 50, 100}, {0, 71, 100}, {0, 99, 100}, {0, 100, 100}, {0, 101, 101},
		{1, 0, 0}, {1, 49, 49}, {1, 50, 71}, {1, 70, 71}, {1, 71, 71}, {2, 0, 71}, {2, 60, 71}, {4, 0, 50}, {4, 50, 50}, {5, 0, 0}, {7, 49, 49}, {7, api.MaxCents, api.MaxCents},
	} {
		for range 2 {
			if got := free(x.cell, x.from); got != x.want {
				t.Errorf("in the cell %d the first amount from %d on is %d, want %d", x.cell, x.from, got, x.want)
			}
		}
		if got := none(x.cell, x.from); got != x.from {
			t.Errorf("without rows the first amount from %d on is %d", x.from, got)
		}
	}
	all := firstFree([]api.Row{{Grades: 15, Warranty: 3, Lo: 0, Hi: api.MaxCents, Way: api.Scrap}})
	if got := all(7, 0); got != api.MaxCents+1 {
		t.Errorf("where all amounts are covered, the first one is %d", got)
	}
}

// A row is asked only for its own cells, from its least amount on.
func TestARowIsDeadByWhatIsHandedIn(t *testing.T) {
	r := api.Row{Grades: 6, Warranty: 2, Lo: 5, Hi: 9, Way: api.Scrap}
	for _, x := range []struct {
		first, second int
		want          bool
	}{{10, 10, true}, {11, 1 << 40, true}, {9, 10, false}, {10, 9, false}, {5, 10, false}, {10, 5, false}, {5, 5, false}} {
		dead := isDead(r, func(cell, from int) int {
			if from != 5 || cell != 3 && cell != 5 {
				t.Errorf("it is asked for the cell %d from %d on", cell, from)
			}
			if cell == 3 {
				return x.first
			}
			return x.second
		})
		if dead != x.want {
			t.Errorf("with %d and %d the row is dead: %v", x.first, x.second, dead)
		}
	}
}

// functions returns the functions of total.go by their names.
func functions(t *testing.T) map[string]*ast.FuncDecl {
	t.Helper()
	file, err := parser.ParseFile(token.NewFileSet(), "total.go", nil, 0)
	if err != nil {
		t.Fatal(err)
	}
	all := map[string]*ast.FuncDecl{}
	for _, d := range file.Decls {
		if f, ok := d.(*ast.FuncDecl); ok {
			all[f.Name.Name] = f
		}
	}
	return all
}

// reaches reports whether there is something in a function, or in one that it names, or so on.
func reaches(all map[string]*ast.FuncDecl, from string, is func(n ast.Node) bool) bool {
	seen := map[string]bool{}
	var visit func(name string) bool
	visit = func(name string) bool {
		if all[name] == nil || seen[name] {
			return false
		}
		seen[name] = true
		found := false
		ast.Inspect(all[name].Body, func(n ast.Node) bool {
			found = found || n != nil && is(n)
			if id, ok := n.(*ast.Ident); ok {
				found = found || visit(id.Name)
			}
			return !found
		})
		return found
	}
	return visit(from)
}

// returnsClosure reports whether a part of the program returns a function literal.
func returnsClosure(n ast.Node) bool {
	r, ok := n.(*ast.ReturnStmt)
	return ok && slices.ContainsFunc(r.Results, func(e ast.Expr) bool {
		_, ok := e.(*ast.FuncLit)
		return ok
	})
}

// keepsArray reports whether a part of the program declares a variable that is an array.
func keepsArray(n ast.Node) bool {
	v, ok := n.(*ast.ValueSpec)
	if !ok {
		return false
	}
	array, ok := v.Type.(*ast.ArrayType)
	return ok && array.Len != nil
}

func TestWhatIsCoveredIsComputedByAClosure(t *testing.T) {
	all := functions(t)
	for _, from := range []string{"Gap", "Whole", "Dead", "Check"} {
		if !reaches(all, from, returnsClosure) {
			t.Errorf("%s reaches no closure that is returned", from)
		}
	}
}

func TestCellsAreKeptInAnArray(t *testing.T) {
	all := functions(t)
	for _, from := range []string{"Gap", "Whole", "Dead", "Check", "Cells"} {
		if !reaches(all, from, keepsArray) {
			t.Errorf("%s keeps no array", from)
		}
	}
}
