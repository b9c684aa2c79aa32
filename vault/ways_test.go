package vault

import (
	"go/ast"
	"go/parser"
	"go/token"
	"slices"
	"testing"

	"backhaul/api"
	"backhaul/sector"
)

// opened returns a vault of a device of its own.
func opened(t *testing.T) *Vault {
	t.Helper()
	d, e := sector.New(10)
	if e != api.OK {
		t.Fatal(int(e))
	}
	v, _, _, e := Open(d, 2, "first")
	if e != api.OK {
		t.Fatal(int(e))
	}
	return v
}

// A step is taken with the text, unless the vault is closed, and its error is returned; ErrDead alone closes the vault.
func TestAStepIsTaken(t *testing.T) {
	for e := api.OK; e <= api.ErrLine; e++ {
		v := opened(t)
		var texts []string
		step := func(text string) api.Errno {
			if v.Closed() {
				t.Error("the vault is closed before the step is taken")
			}
			texts = append(texts, text)
			return e
		}
		if got := v.take(step, "a text"); got != e || !slices.Equal(texts, []string{"a text"}) {
			t.Errorf("of %d, %d is returned, and %q taken", int(e), int(got), texts)
		}
		if v.Closed() != (e == api.ErrDead) {
			t.Errorf("after %d the vault is closed: %t", int(e), v.Closed())
		}
		want, again := e, 2
		if e == api.ErrDead {
			want, again = api.ErrLog, 1
		}
		if got := v.take(step, "again"); got != want || len(texts) != again {
			t.Errorf("after %d, %d is returned, and %q taken", int(e), int(got), texts)
		}
	}
}

func TestNoStepIsTakenOfNoVault(t *testing.T) {
	var none *Vault
	for _, v := range []*Vault{none, {}, {closed: true}} {
		step := func(string) api.Errno {
			t.Error("a step is taken")
			return api.OK
		}
		if e := v.take(step, "a text"); e != api.ErrNil {
			t.Errorf("%d is returned", int(e))
		}
	}
}

// function returns the declaration of a function of vault.go.
func function(t *testing.T, name string) *ast.FuncDecl {
	t.Helper()
	file, err := parser.ParseFile(token.NewFileSet(), "vault.go", nil, 0)
	if err != nil {
		t.Fatal(err)
	}
	for _, d := range file.Decls {
		if f, ok := d.(*ast.FuncDecl); ok && f.Name.Name == name {
			return f
		}
	}
	t.Fatalf("%s is not there", name)
	return nil
}

// has reports whether a part of the program is of a kind, or contains one that is.
func has(part ast.Node, is func(part ast.Node) bool) bool {
	found := false
	ast.Inspect(part, func(n ast.Node) bool {
		found = found || n != nil && is(n)
		return true
	})
	return found
}

// selects reports whether a part of the program names a field or a method of something.
func selects(name string) func(part ast.Node) bool {
	return func(part ast.Node) bool {
		s, ok := part.(*ast.SelectorExpr)
		return ok && s.Sel.Name == name
	}
}

// takes reports whether a part of the program takes a step that is a method value.
func takes(step string) func(part ast.Node) bool {
	return func(part ast.Node) bool {
		call, ok := part.(*ast.CallExpr)
		return ok && selects("take")(call.Fun) && len(call.Args) > 0 && selects(step)(call.Args[0])
	}
}

func TestStepsAreMethodValues(t *testing.T) {
	for name, step := range map[string]string{"Append": "putFrame", "Snap": "putSnap"} {
		if !has(function(t, name), takes(step)) {
			t.Errorf("%s does not take the step %s", name, step)
		}
	}
}

// closes reports whether a part of the program is a deferred call that closes the vault.
func closes(part ast.Node) bool {
	call, ok := part.(*ast.DeferStmt)
	return ok && has(call, func(n ast.Node) bool {
		set, ok := n.(*ast.AssignStmt)
		return ok && len(set.Lhs) == 1 && selects("closed")(set.Lhs[0])
	})
}

func TestAVaultIsClosedByADeferredCall(t *testing.T) {
	if !has(function(t, "take"), closes) {
		t.Error("no deferred call closes the vault")
	}
}
