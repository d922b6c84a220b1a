package tests

import (
	"bytes"
	"go/ast"
	"go/format"
	"go/importer"
	"go/parser"
	"go/token"
	"go/types"
	"os"
	"path/filepath"
	"slices"
	"strings"
	"testing"
)

const mostLinesOfAFunction = 60

var allowedImports = strings.Fields(`bytes cmp container/heap errors iter maps math math/bits slices sort
	strconv strings sync sync/atomic unicode unicode/utf8`)

// TestLanguage holds the program against what of the language page a parser can see.
func TestLanguage(t *testing.T) {
	names, err := filepath.Glob(filepath.Join("..", "impl", "*.go"))
	if err != nil || len(names) == 0 {
		t.Fatal("no files of the program", err)
	}
	for _, name := range names {
		src, err := os.ReadFile(name)
		if err != nil {
			t.Fatal(err)
		}
		if laid, err := format.Source(src); err != nil || !bytes.Equal(laid, src) {
			t.Errorf("%s has not gofmt's layout %v", name, err)
		}
		files := token.NewFileSet()
		file, err := parser.ParseFile(files, name, src, parser.ParseComments)
		if err != nil {
			t.Fatal(err)
		}
		checkImports(t, name, file)
		checkFunctions(t, files, file)
		checkVariables(t, file)
	}
}

func checkImports(t *testing.T, name string, file *ast.File) {
	for _, i := range file.Imports {
		if path := strings.Trim(i.Path.Value, `"`); !slices.Contains(allowedImports, path) {
			t.Errorf("%s imports %s", name, path)
		}
	}
	for _, group := range file.Comments {
		for _, c := range group.List {
			if strings.HasPrefix(c.Text, "//go:") || strings.HasPrefix(c.Text, "// +build") {
				t.Errorf("%s has the line %s", name, c.Text)
			}
		}
	}
}

func checkFunctions(t *testing.T, files *token.FileSet, file *ast.File) {
	for _, d := range file.Decls {
		f, ok := d.(*ast.FuncDecl)
		if !ok {
			continue
		}
		if lines := files.Position(f.End()).Line - files.Position(f.Pos()).Line + 1; lines > mostLinesOfAFunction {
			t.Errorf("%s has %d lines", f.Name.Name, lines)
		}
	}
}

// checkVariables lets nothing but tables that are written out, and errors of one text, stand at package level.
func checkVariables(t *testing.T, file *ast.File) {
	for _, d := range file.Decls {
		group, ok := d.(*ast.GenDecl)
		if !ok || group.Tok != token.VAR {
			continue
		}
		for _, s := range group.Specs {
			v := s.(*ast.ValueSpec)
			if len(v.Values) != len(v.Names) {
				t.Errorf("%s has no value of its own", v.Names[0].Name)
			}
			for _, value := range v.Values {
				checkValue(t, v.Names[0].Name, value)
			}
		}
	}
}

func checkValue(t *testing.T, name string, value ast.Expr) {
	switch x := value.(type) {
	case *ast.CompositeLit:
		if _, ok := x.Type.(*ast.ArrayType); !ok {
			t.Errorf("%s is no table", name)
		}
	case *ast.CallExpr:
		f, ok := x.Fun.(*ast.SelectorExpr)
		if !ok || f.Sel.Name != "New" || !strings.HasPrefix(name, "err") {
			t.Errorf("%s is made by a call", name)
		}
	default:
		t.Errorf("%s is neither a table nor an error", name)
	}
}

// TestKindsAreCountedUp asks for the way of chapter 1 that no answer shows.
func TestKindsAreCountedUp(t *testing.T) {
	src, err := os.ReadFile(filepath.Join("..", "impl", "l1_float.go"))
	if err != nil {
		t.Fatal(err)
	}
	if !bytes.Contains(src, []byte("KdNan = iota\n")) {
		t.Error("the kinds are not counted up from KdNan")
	}
}

// TestRunsAreWalkedByLabels asks for the ways of chapter 4 in its own file, since other chapters have them too.
func TestRunsAreWalkedByLabels(t *testing.T) {
	file, err := parser.ParseFile(token.NewFileSet(), filepath.Join("..", "impl", "l4_run.go"), nil, 0)
	if err != nil {
		t.Fatal(err)
	}
	byLabel, byNumber := false, false
	ast.Inspect(file, func(n ast.Node) bool {
		if x, ok := n.(*ast.LabeledStmt); ok {
			loop, isLoop := x.Stmt.(*ast.RangeStmt)
			byLabel = byLabel || isLoop
			if isLoop {
				_, isSum := loop.X.(*ast.BinaryExpr) // only a number is a sum
				byNumber = byNumber || isSum
			}
		}
		return true
	})
	if !byLabel || !byNumber {
		t.Error("no loop with a label goes over a number", byLabel, byNumber)
	}
}

// checkedFile tells one file of the program, and the types of what stands in it.
func checkedFile(t *testing.T, name string) (*ast.File, map[ast.Expr]types.TypeAndValue) {
	t.Helper()
	files := token.NewFileSet()
	names, err := filepath.Glob(filepath.Join("..", "impl", "*.go"))
	if err != nil {
		t.Fatal(err)
	}
	var all []*ast.File
	var own *ast.File
	for _, each := range names {
		file, err := parser.ParseFile(files, each, nil, 0)
		if err != nil {
			t.Fatal(err)
		}
		all = append(all, file)
		if filepath.Base(each) == name {
			own = file
		}
	}
	kinds := map[ast.Expr]types.TypeAndValue{}
	check := types.Config{Importer: importer.ForCompiler(files, "source", nil)}
	if _, err := check.Check("impl", files, all, &types.Info{Types: kinds}); err != nil {
		t.Fatal(err)
	}
	return own, kinds
}

// TestSchedulesByAnIterator asks for the ways of chapter 5 in its own file: a range over a function, and arrays that are compared.
func TestSchedulesByAnIterator(t *testing.T) {
	own, kinds := checkedFile(t, "l5_prio.go")
	byFunction, arraysCompared := false, false
	ast.Inspect(own, func(n ast.Node) bool {
		switch x := n.(type) {
		case *ast.RangeStmt:
			_, isFunction := kinds[x.X].Type.Underlying().(*types.Signature)
			byFunction = byFunction || isFunction
		case *ast.BinaryExpr:
			_, isArray := kinds[x.X].Type.Underlying().(*types.Array)
			arraysCompared = arraysCompared || isArray && x.Op == token.EQL
		}
		return true
	})
	if !byFunction || !arraysCompared {
		t.Error("the schedules are not told by an iterator, or the ranks not compared as arrays", byFunction, arraysCompared)
	}
}

// TestClocksAreCutCopiedAndCleared asks for the ways of chapter 6 in its own file: other chapters cut by a third index, too.
func TestClocksAreCutCopiedAndCleared(t *testing.T) {
	file, err := parser.ParseFile(token.NewFileSet(), filepath.Join("..", "impl", "l6_order.go"), nil, 0)
	if err != nil {
		t.Fatal(err)
	}
	ways := map[string]bool{}
	ast.Inspect(file, func(n ast.Node) bool {
		switch x := n.(type) {
		case *ast.SliceExpr:
			ways["three-index"] = ways["three-index"] || x.Slice3
		case *ast.CallExpr:
			if f, ok := x.Fun.(*ast.Ident); ok {
				ways[f.Name] = true
			}
		}
		return true
	})
	for _, way := range []string{"three-index", "copy", "clear"} {
		if !ways[way] {
			t.Error("way missing:", way)
		}
	}
}

// TestCellsAreKnownInMaps asks for the ways of chapter 7 in its own file: a map that is deleted from, and one that is ranged over.
func TestCellsAreKnownInMaps(t *testing.T) {
	own, kinds := checkedFile(t, "l7_race.go")
	isMap := func(e ast.Expr) bool {
		_, is := kinds[e].Type.Underlying().(*types.Map)
		return is
	}
	deleted, ranged := false, false
	ast.Inspect(own, func(n ast.Node) bool {
		switch x := n.(type) {
		case *ast.RangeStmt:
			ranged = ranged || isMap(x.X)
		case *ast.CallExpr:
			if f, ok := x.Fun.(*ast.Ident); ok && f.Name == "delete" {
				deleted = deleted || isMap(x.Args[0])
			}
		}
		return true
	})
	if !deleted || !ranged {
		t.Error("no map is deleted from, or none is ranged over", deleted, ranged)
	}
}

// TestLocksInGenericGraphs asks for the ways of chapter 8 in its own file, since other chapters have generic functions, too.
func TestLocksInGenericGraphs(t *testing.T) {
	file, err := parser.ParseFile(token.NewFileSet(), filepath.Join("..", "impl", "l8_lock.go"), nil, 0)
	if err != nil {
		t.Fatal(err)
	}
	types, functions := false, false
	ast.Inspect(file, func(n ast.Node) bool {
		switch x := n.(type) {
		case *ast.TypeSpec:
			types = types || x.TypeParams != nil
		case *ast.FuncDecl:
			functions = functions || x.Type.TypeParams != nil
		}
		return true
	})
	if !types || !functions {
		t.Error("no type is generic, or no function", types, functions)
	}
}

// TestEventsAreComparedAsStructs asks for the way of chapter 9 in its own file, since other chapters compare structs, too.
func TestEventsAreComparedAsStructs(t *testing.T) {
	own, kinds := checkedFile(t, "l9_swap.go")
	compared := false
	ast.Inspect(own, func(n ast.Node) bool {
		if x, ok := n.(*ast.BinaryExpr); ok && (x.Op == token.EQL || x.Op == token.NEQ) {
			named, isNamed := kinds[x.X].Type.(*types.Named)
			compared = compared || isNamed && named.Obj().Name() == "Event"
		}
		return true
	})
	if !compared {
		t.Error("no events are compared as structs")
	}
}
