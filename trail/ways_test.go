package trail

import (
	"go/ast"
	"go/parser"
	"go/token"
	"slices"
	"testing"

	"backhaul/api"
)

// counted returns a step that adds its name to those of the steps taken, and returns an error.
func counted(taken *[]string, name string, e api.Errno) step {
	return func() api.Errno {
		*taken = append(*taken, name)
		return e
	}
}

func TestStepsAreTakenUpToTheFirstError(t *testing.T) {
	for _, c := range []struct {
		es    []api.Errno
		taken []string
		e     api.Errno
	}{
		{nil, nil, api.OK},
		{[]api.Errno{api.OK}, []string{"a"}, api.OK},
		{[]api.Errno{api.OK, api.OK, api.OK}, []string{"a", "b", "c"}, api.OK},
		{[]api.Errno{api.ErrDead, api.OK}, []string{"a"}, api.ErrDead},
		{[]api.Errno{api.OK, api.ErrFull, api.ErrDead}, []string{"a", "b"}, api.ErrFull},
		{[]api.Errno{api.OK, api.OK, api.ErrRange}, []string{"a", "b", "c"}, api.ErrRange},
	} {
		var taken []string
		var steps []step
		for i, e := range c.es {
			steps = append(steps, counted(&taken, string(rune('a'+i)), e))
		}
		if e := inTurn(steps...); e != c.e || !slices.Equal(taken, c.taken) {
			t.Errorf("of %d the steps %v are taken, and %d is returned", c.es, taken, int(e))
		}
	}
}

// Nothing is written until the step is taken.
func TestAStepWrites(t *testing.T) {
	var wrote []string
	write := func(at int, s string) api.Errno {
		wrote = append(wrote, string(rune('0'+at))+s)
		return api.ErrFull
	}
	first, second := writing(write, 1, "a"), writing(write, 2, "b")
	if len(wrote) != 0 {
		t.Errorf("%q was written", wrote)
	}
	if e := second(); e != api.ErrFull {
		t.Errorf("the step returns %d", int(e))
	}
	if e := first(); e != api.ErrFull || !slices.Equal(wrote, []string{"2b", "1a"}) {
		t.Errorf("%q was written, %d", wrote, int(e))
	}
}

// function returns the declaration of a function of trail.go.
func function(t *testing.T, name string) *ast.FuncDecl {
	t.Helper()
	file, err := parser.ParseFile(token.NewFileSet(), "trail.go", nil, 0)
	if err != nil {
		t.Fatal(err)
	}
	for _, d := range file.Decls {
		if f, ok := d.(*ast.FuncDecl); ok && f.Name.Name == name {
			return f
		}
	}
	t.Fatalf("%s is not there", name)
	return nil
}

// has reports whether a function of trail.go contains a part.
func has(t *testing.T, name string, is func(part ast.Node) bool) bool {
	t.Helper()
	found := false
	ast.Inspect(function(t, name), func(n ast.Node) bool {
		found = found || n != nil && is(n)
		return true
	})
	return found
}

// calls reports whether a part of the program is a call of a function of trail.go.
func calls(name string) func(part ast.Node) bool {
	return func(part ast.Node) bool {
		call, ok := part.(*ast.CallExpr)
		if !ok {
			return false
		}
		to, ok := call.Fun.(*ast.Ident)
		return ok && to.Name == name
	}
}

// passes reports whether a part of the program is a call with a method value of the device as an argument.
func passes(method string) func(part ast.Node) bool {
	return func(part ast.Node) bool {
		call, ok := part.(*ast.CallExpr)
		return ok && slices.ContainsFunc(call.Args, func(arg ast.Expr) bool {
			value, ok := arg.(*ast.SelectorExpr)
			return ok && value.Sel.Name == method
		})
	}
}

func TestStepsAreMethodValues(t *testing.T) {
	for _, method := range []string{"Write", "Flush"} {
		if !has(t, "store", passes(method)) {
			t.Errorf("%s is no step", method)
		}
	}
	for _, name := range []string{"Append", "Wipe"} {
		if !has(t, name, calls("store")) {
			t.Errorf("%s takes no steps", name)
		}
	}
}

func TestAStepIsAClosure(t *testing.T) {
	if !has(t, "store", calls("writing")) || !has(t, "store", calls("inTurn")) {
		t.Error("store does not take the steps in turn")
	}
	if !has(t, "writing", func(n ast.Node) bool {
		closure, ok := n.(*ast.FuncLit)
		return ok && slices.ContainsFunc(closure.Body.List, func(s ast.Stmt) bool {
			r, ok := s.(*ast.ReturnStmt)
			return ok && len(r.Results) == 1 && calls("write")(r.Results[0])
		})
	}) {
		t.Error("writing returns no closure that writes")
	}
}
