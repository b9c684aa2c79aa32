package policy

import (
	"go/ast"
	"go/parser"
	"go/token"
	"slices"
	"testing"

	"backhaul/api"
)

// That these compile shows that what tests a period is handed in as a function.
var (
	_ func(i api.Item, at, now int, period func(ticks int) bool) bool = holds
	_ func(at int, period func(ticks int) bool) int                   = last
)

// A method value tests the period of the item that it was made of, and of no other.
func TestAMethodValueKeepsTheItem(t *testing.T) {
	i := api.Item{Id: 1, Vendor: 1, Window: 10, Warranty: 20}
	window, warranty := terms(i).window, terms(i).warranty
	other := terms(api.Item{Id: 1, Vendor: 1}).window
	i.Window, i.Warranty = 0, 0
	for ticks := range 30 {
		if window(ticks) != (ticks <= 10) || warranty(ticks) != (ticks <= 20) || other(ticks) != (ticks == 0) {
			t.Errorf("after %d ticks: %v, %v, %v", ticks, window(ticks), warranty(ticks), other(ticks))
		}
	}
}

// What is handed in is asked for the ticks from shipping on, and only of a valid item and of times in their order.
func TestAPeriodIsTestedByWhatIsHandedIn(t *testing.T) {
	valid := api.Item{Id: 1, Vendor: 1}
	for _, x := range []struct {
		item    api.Item
		at, now int
		ticks   []int
	}{
		{valid, 5, 12, []int{7}}, {valid, 5, 5, []int{0}}, {valid, 0, api.MaxTick, []int{api.MaxTick}},
		{valid, 5, 4, nil}, {valid, -1, 4, nil}, {valid, 5, api.MaxTick + 1, nil}, {api.Item{}, 5, 12, nil},
	} {
		for _, answer := range []bool{false, true} {
			var ticks []int
			got := holds(x.item, x.at, x.now, func(n int) bool {
				ticks = append(ticks, n)
				return answer
			})
			if got != (answer && len(x.ticks) > 0) || !slices.Equal(ticks, x.ticks) {
				t.Errorf("from %d to %d: %v, and it is asked for %v, want %v", x.at, x.now, got, ticks, x.ticks)
			}
		}
	}
}

// The last time is found by what is handed in, which is asked only for times that there are.
func TestTheLastTimeIsFoundByWhatIsHandedIn(t *testing.T) {
	for _, at := range []int{0, 1, 500000, api.MaxTick - 1000, api.MaxTick - 2, api.MaxTick - 1, api.MaxTick} {
		for _, end := range []int{0, 1, 2, 999, 1000, 1001, 499999, 500000, 500001, api.MaxTick - 1, api.MaxTick, 1 << 40} {
			asked := 0
			got := last(at, func(ticks int) bool {
				asked++
				if ticks < 0 || at+ticks > api.MaxTick {
					t.Errorf("from %d on it is asked for %d ticks", at, ticks)
				}
				return ticks <= end
			})
			if got != min(at+end, api.MaxTick) || asked > 21 {
				t.Errorf("from %d on for %d ticks, the last time is %d, after %d questions", at, end, got, asked)
			}
		}
	}
}

// functions returns the functions and methods of policy.go by their names.
func functions(t *testing.T) map[string]*ast.FuncDecl {
	t.Helper()
	file, err := parser.ParseFile(token.NewFileSet(), "policy.go", nil, 0)
	if err != nil {
		t.Fatal(err)
	}
	all := map[string]*ast.FuncDecl{}
	for _, d := range file.Decls {
		if f, ok := d.(*ast.FuncDecl); ok {
			all[f.Name.Name] = f
		}
	}
	return all
}

// reaches reports whether there is something in a function, or in one that it names, or so on.
func reaches(all map[string]*ast.FuncDecl, from string, is func(n ast.Node) bool) bool {
	seen := map[string]bool{}
	var visit func(name string) bool
	visit = func(name string) bool {
		if all[name] == nil || seen[name] {
			return false
		}
		seen[name] = true
		found := false
		ast.Inspect(all[name].Body, func(n ast.Node) bool {
			found = found || n != nil && is(n)
			if id, ok := n.(*ast.Ident); ok {
				found = found || visit(id.Name)
			}
			return !found
		})
		return found
	}
	return visit(from)
}

// passesMethodValue returns what reports whether a part of the program calls a function with a method of the package, and as a value.
func passesMethodValue(all map[string]*ast.FuncDecl) func(n ast.Node) bool {
	return func(n ast.Node) bool {
		call, ok := n.(*ast.CallExpr)
		return ok && slices.ContainsFunc(call.Args, func(e ast.Expr) bool {
			of, ok := e.(*ast.SelectorExpr)
			return ok && all[of.Sel.Name] != nil && all[of.Sel.Name].Recv != nil
		})
	}
}

// passesClosure reports whether a part of the program calls a function with a function literal that calls a function it was not given.
func passesClosure(n ast.Node) bool {
	call, ok := n.(*ast.CallExpr)
	return ok && slices.ContainsFunc(call.Args, func(e ast.Expr) bool {
		literal, ok := e.(*ast.FuncLit)
		return ok && callsPeriod(literal.Body)
	})
}

func callsPeriod(body *ast.BlockStmt) bool {
	found := false
	ast.Inspect(body, func(n ast.Node) bool {
		if call, ok := n.(*ast.CallExpr); ok {
			of, ok := call.Fun.(*ast.Ident)
			found = found || ok && of.Name == "period"
		}
		return !found
	})
	return found
}

func TestPeriodsAreTestedByMethodValues(t *testing.T) {
	all := functions(t)
	for _, from := range []string{"Open", "Covered", "Until"} {
		if !reaches(all, from, passesMethodValue(all)) {
			t.Errorf("%s tests no period by a method value", from)
		}
	}
}

func TestPeriodsAreTestedByAClosure(t *testing.T) {
	if !reaches(functions(t), "Until", passesClosure) {
		t.Error("Until tests no period by a closure")
	}
}
