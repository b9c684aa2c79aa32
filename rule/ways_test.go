package rule

import (
	"go/ast"
	"go/parser"
	"go/token"
	"testing"

	"backhaul/api"
)

// Each condition tells of one thing alone, and keeps the row that it is of.
func TestConditionsAreMethodValuesOfARow(t *testing.T) {
	row := api.Row{Grades: 6, Warranty: 2, Lo: 100, Hi: 200, Way: api.Vendor}
	all := conditions(row).all()
	row = api.Row{}
	if len(all) != 3 {
		t.Fatalf("a row has %d conditions, want 3", len(all))
	}
	for _, x := range []struct {
		facts Facts
		want  [3]bool
	}{
		{Facts{Grade: 1, Warranty: true, Amount: 100}, [3]bool{true, true, true}},
		{Facts{Grade: 2, Warranty: true, Amount: 200}, [3]bool{true, true, true}},
		{Facts{Grade: 0, Warranty: true, Amount: 150}, [3]bool{false, true, true}},
		{Facts{Grade: 3, Warranty: true, Amount: 150}, [3]bool{false, true, true}},
		{Facts{Grade: 1, Warranty: false, Amount: 150}, [3]bool{true, false, true}},
		{Facts{Grade: 1, Warranty: true, Amount: 99}, [3]bool{true, true, false}},
		{Facts{Grade: 2, Warranty: true, Amount: 201}, [3]bool{true, true, false}},
		{Facts{Grade: 0, Warranty: false, Amount: 0}, [3]bool{false, false, false}},
	} {
		for i, holds := range all {
			if holds(x.facts) != x.want[i] {
				t.Errorf("the condition %d of %v is %v", i, x.facts, !x.want[i])
			}
		}
	}
}

// functions returns the functions and methods of rule.go by their names.
func functions(t *testing.T) map[string]*ast.FuncDecl {
	t.Helper()
	file, err := parser.ParseFile(token.NewFileSet(), "rule.go", nil, 0)
	if err != nil {
		t.Fatal(err)
	}
	all := map[string]*ast.FuncDecl{}
	for _, d := range file.Decls {
		if f, ok := d.(*ast.FuncDecl); ok {
			all[f.Name.Name] = f
		}
	}
	return all
}

// reaches reports whether there is something in a function, or in one that it names, or so on.
func reaches(all map[string]*ast.FuncDecl, from string, is func(n ast.Node) bool) bool {
	seen := map[string]bool{}
	var visit func(name string) bool
	visit = func(name string) bool {
		if all[name] == nil || seen[name] {
			return false
		}
		seen[name] = true
		found := false
		ast.Inspect(all[name].Body, func(n ast.Node) bool {
			found = found || n != nil && is(n)
			if id, ok := n.(*ast.Ident); ok {
				found = found || visit(id.Name)
			}
			return !found
		})
		return found
	}
	return visit(from)
}

// continuedFromWithin reports whether a part of the program is a loop with a label, which a loop in it continues.
func continuedFromWithin(n ast.Node) bool {
	labelled, ok := n.(*ast.LabeledStmt)
	if !ok {
		return false
	}
	outer, ok := labelled.Stmt.(*ast.RangeStmt)
	if !ok {
		return false
	}
	found := false
	ast.Inspect(outer.Body, func(n ast.Node) bool {
		inner, ok := n.(*ast.RangeStmt)
		if !ok {
			return true
		}
		ast.Inspect(inner.Body, func(n ast.Node) bool {
			branch, ok := n.(*ast.BranchStmt)
			found = found || ok && branch.Tok == token.CONTINUE && branch.Label != nil && branch.Label.Name == labelled.Label.Name
			return true
		})
		return true
	})
	return found
}

func TestALoopOverRowsIsContinuedByALabel(t *testing.T) {
	all := functions(t)
	for _, from := range []string{"Match", "Decide", "Fits"} {
		if !reaches(all, from, continuedFromWithin) {
			t.Errorf("%s continues no loop by a label", from)
		}
	}
}

// listsMethodValues reports whether a part of the program is a list of methods of the package, all of them as values.
func listsMethodValues(all map[string]*ast.FuncDecl, n ast.Node) bool {
	list, ok := n.(*ast.CompositeLit)
	if !ok || len(list.Elts) == 0 {
		return false
	}
	for _, e := range list.Elts {
		of, ok := e.(*ast.SelectorExpr)
		if !ok || all[of.Sel.Name] == nil || all[of.Sel.Name].Recv == nil {
			return false
		}
	}
	return true
}

func TestTheConditionsOfARowAreMethodValues(t *testing.T) {
	all := functions(t)
	for _, from := range []string{"Match", "Decide", "Fits"} {
		if !reaches(all, from, func(n ast.Node) bool { return listsMethodValues(all, n) }) {
			t.Errorf("%s reaches no list of method values", from)
		}
	}
}
