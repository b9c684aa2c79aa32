package batch

import (
	"errors"
	"go/ast"
	"go/parser"
	"go/token"
	"go/types"
	"slices"
	"strconv"
	"testing"

	"backhaul/strict"
)

// A table is read by functions that are handed in, as method values are: first the number of its rows, and then of each row its id and its text.
func TestATableIsReadByWhatIsHandedIn(t *testing.T) {
	var asked []string
	next := 2
	num := func(width, most int) int {
		asked = append(asked, "number of width "+strconv.Itoa(width)+" to "+strconv.Itoa(most))
		next++
		return next - 1
	}
	text := func(most int) string {
		asked = append(asked, "text to "+strconv.Itoa(most))
		return strconv.Itoa(next)
	}
	if got, want := readTable(num, text), []Row{{3, "4"}, {4, "5"}}; !slices.Equal(got, want) {
		t.Errorf("the table is %v, want %v", got, want)
	}
	if want := []string{"number of width 1 to 60", "number of width 4 to 999999", "text to 200", "number of width 4 to 999999", "text to 200"}; !slices.Equal(asked, want) {
		t.Errorf("asked was for %q, want %q", asked, want)
	}
}

func TestATableIsReadByMethodValues(t *testing.T) {
	r := strict.New("\x02\x00\x00\x00\x02\x00\x01b\x00\x00\x00\x05\x00\x01xrest")
	num, text := r.Num, r.Text
	if got, want := readTable(num, text), []Row{{2, "b"}, {5, "x"}}; !slices.Equal(got, want) || r.At() != 15 || r.Err() != nil {
		t.Errorf("the table is %v, want %v, and ends at %d: %v", got, want, r.At(), r.Err())
	}
}

// nothing imports no package: what rows are is told without the packages below.
type nothing struct{}

func (nothing) Import(string) (*types.Package, error) { return nil, errors.New("not imported") }

// program returns the functions of batch.go by their names, and the types of what is in them.
func program(t *testing.T) (map[string]*ast.FuncDecl, *types.Info) {
	t.Helper()
	fset := token.NewFileSet()
	file, err := parser.ParseFile(fset, "batch.go", nil, 0)
	if err != nil {
		t.Fatal(err)
	}
	info := &types.Info{Types: map[ast.Expr]types.TypeAndValue{}}
	config := types.Config{Importer: nothing{}, Error: func(error) {}}
	// That nothing is imported gives errors, beside the types that are asked for.
	_, _ = config.Check("batch", fset, []*ast.File{file}, info)
	all := map[string]*ast.FuncDecl{}
	for _, d := range file.Decls {
		if f, ok := d.(*ast.FuncDecl); ok {
			all[f.Name.Name] = f
		}
	}
	return all, info
}

// reached returns a function, and those that it reaches by their names.
func reached(all map[string]*ast.FuncDecl, name string) []*ast.FuncDecl {
	seen := map[string]bool{}
	var l []*ast.FuncDecl
	var visit func(name string)
	visit = func(name string) {
		f := all[name]
		if f == nil || seen[name] {
			return
		}
		seen[name] = true
		l = append(l, f)
		ast.Inspect(f.Body, func(n ast.Node) bool {
			if id, ok := n.(*ast.Ident); ok {
				visit(id.Name)
			}
			return true
		})
	}
	visit(name)
	return l
}

// comparesRows reports whether a function compares two rows by an operator.
func comparesRows(f *ast.FuncDecl, info *types.Info) bool {
	isRow := func(e ast.Expr) bool {
		of := info.Types[e].Type
		return of != nil && of.String() == "batch.Row"
	}
	found := false
	ast.Inspect(f, func(n ast.Node) bool {
		if b, ok := n.(*ast.BinaryExpr); ok && (b.Op == token.EQL || b.Op == token.NEQ) {
			found = found || isRow(b.X) && isRow(b.Y)
		}
		return true
	})
	return found
}

func TestRowsAreComparedAsWholeStructs(t *testing.T) {
	all, info := program(t)
	if !slices.ContainsFunc(reached(all, "Diff"), func(f *ast.FuncDecl) bool { return comparesRows(f, info) }) {
		t.Error("Diff compares no rows as whole structs")
	}
}

// passed returns the names of the methods that a function passes as values.
func passed(f *ast.FuncDecl) []string {
	var l []string
	ast.Inspect(f, func(n ast.Node) bool {
		if call, ok := n.(*ast.CallExpr); ok {
			for _, e := range call.Args {
				if of, ok := e.(*ast.SelectorExpr); ok {
					l = append(l, of.Sel.Name)
				}
			}
		}
		return true
	})
	return l
}

func TestValuesAreReadByMethodValues(t *testing.T) {
	all, _ := program(t)
	var l []string
	for _, f := range reached(all, "Take") {
		l = append(l, passed(f)...)
	}
	for _, name := range []string{"Num", "Text"} {
		if !slices.Contains(l, name) {
			t.Errorf("Take passes no %s of a reader as a value", name)
		}
	}
}
