package tests

import (
	"go/ast"
	"go/parser"
	"go/token"
	"path/filepath"
	"testing"
)

// source is a file of impl.
type source struct {
	name string
	tree *ast.File
}

// sources returns all files of impl, in which the rules of the language are looked for.
func sources(t *testing.T) (*token.FileSet, []source) {
	t.Helper()
	names, err := filepath.Glob("../impl/*.go")
	if err != nil || len(names) == 0 {
		t.Fatalf("no sources: %v", err)
	}
	files := token.NewFileSet()
	var list []source
	for _, name := range names {
		tree, err := parser.ParseFile(files, name, nil, 0)
		if err != nil {
			t.Fatal(err)
		}
		list = append(list, source{filepath.Base(name), tree})
	}
	return files, list
}

// badNames are built-in names that the rules leave out: types, and functions that hang on capacity or leave the usual way.
var badNames = map[string]bool{
	"any": true, "error": true, "cap": true, "panic": true, "recover": true,
	"float32": true, "float64": true, "complex64": true, "complex128": true,
	"complex": true, "real": true, "imag": true,
}

func TestLanguage(t *testing.T) {
	files, list := sources(t)
	functions := functionNames(list)
	for _, file := range list {
		tell := func(node ast.Node, what string) {
			t.Errorf("%s: %s", files.Position(node.Pos()), what)
		}
		if file.tree.Name.Name != "impl" {
			tell(file.tree, "another package")
		}
		if len(file.tree.Imports) > 0 {
			tell(file.tree, "an import")
		}
		checkTop(file.tree, tell)
		ast.Inspect(file.tree, func(node ast.Node) bool {
			if what := wrongNode(node); what != "" {
				tell(node, what)
			}
			return true
		})
		checkValues(file.tree, functions, tell)
	}
}

// functionNames returns the names of all functions and methods.
func functionNames(list []source) map[string]bool {
	names := map[string]bool{}
	for _, file := range list {
		for _, declared := range file.tree.Decls {
			if function, ok := declared.(*ast.FuncDecl); ok {
				names[function.Name.Name] = true
			}
		}
	}
	return names
}

// checkTop tells variables of the package, functions with parameters of types, and init.
func checkTop(tree *ast.File, tell func(ast.Node, string)) {
	for _, declared := range tree.Decls {
		switch declared := declared.(type) {
		case *ast.GenDecl:
			if declared.Tok == token.VAR {
				tell(declared, "a variable of the package")
			}
		case *ast.FuncDecl:
			if declared.Name.Name == "init" {
				tell(declared, "a function init")
			}
			if declared.Type.TypeParams != nil {
				tell(declared, "a generic function")
			}
		}
	}
}

// wrongNode tells what of the rules a node of the source breaks by itself; nothing if none.
func wrongNode(node ast.Node) string {
	switch node := node.(type) {
	case *ast.InterfaceType, *ast.TypeSwitchStmt, *ast.TypeAssertExpr:
		return "an interface"
	case *ast.FuncLit:
		return "a closure"
	case *ast.MapType:
		return "a map"
	case *ast.ChanType, *ast.GoStmt, *ast.SelectStmt, *ast.SendStmt:
		return "a channel or a goroutine"
	case *ast.DeferStmt:
		return "a defer"
	case *ast.IndexListExpr:
		return "a generic type"
	case *ast.TypeSpec:
		if node.TypeParams != nil {
			return "a generic type"
		}
	case *ast.BranchStmt:
		if node.Tok == token.GOTO {
			return "a goto"
		}
	case *ast.BasicLit:
		if node.Kind == token.FLOAT || node.Kind == token.IMAG {
			return "a number that is not whole"
		}
	case *ast.SliceExpr:
		if node.Slice3 {
			return "a slice expression with three indexes"
		}
	case *ast.Ident:
		if badNames[node.Name] {
			return "the name " + node.Name
		}
	case *ast.BinaryExpr:
		if isNil(node.X) || isNil(node.Y) {
			return "a comparison with nil"
		}
	case *ast.AssignStmt:
		if len(node.Lhs) > 1 && !allNames(node.Lhs) {
			return "several values at once for elements or fields"
		}
	}
	return ""
}

func isNil(node ast.Expr) bool {
	name, ok := node.(*ast.Ident)
	return ok && name.Name == "nil"
}

func allNames(nodes []ast.Expr) bool {
	for _, node := range nodes {
		if _, ok := node.(*ast.Ident); !ok {
			return false
		}
	}
	return true
}

// checkValues tells names of functions that are neither declared nor called where they stand, and types of functions without a declaration.
func checkValues(tree *ast.File, functions map[string]bool, tell func(ast.Node, string)) {
	right := map[ast.Node]bool{}
	ast.Inspect(tree, func(node ast.Node) bool {
		switch node := node.(type) {
		case *ast.FuncDecl:
			right[node.Name] = true
			right[node.Type] = true
		case *ast.CallExpr:
			switch called := node.Fun.(type) {
			case *ast.Ident:
				right[called] = true
			case *ast.SelectorExpr:
				right[called.Sel] = true
			}
		}
		return true
	})
	ast.Inspect(tree, func(node ast.Node) bool {
		if name, ok := node.(*ast.Ident); ok && functions[name.Name] && !right[name] {
			tell(name, "the function "+name.Name+" as a value")
		}
		if kind, ok := node.(*ast.FuncType); ok && !right[kind] {
			tell(kind, "a type of functions")
		}
		return true
	})
}

// operators returns which operators a part of the source uses.
func operators(part ast.Node) map[token.Token]bool {
	used := map[token.Token]bool{}
	ast.Inspect(part, func(node ast.Node) bool {
		switch node := node.(type) {
		case *ast.BinaryExpr:
			used[node.Op] = true
		case *ast.AssignStmt:
			used[node.Tok] = true
		}
		return true
	})
	return used
}

// sourceOf returns the file of a chapter.
func sourceOf(t *testing.T, name string) *ast.File {
	t.Helper()
	_, list := sources(t)
	for _, file := range list {
		if file.name == name {
			return file.tree
		}
	}
	t.Fatalf("%s is not here", name)
	return nil
}

// The way of chapter 1: nets are rows of bits, so sets are made and asked by shifts, and by bits in common.
func TestWayOfNets(t *testing.T) {
	used := operators(sourceOf(t, "l1_nets.go"))
	if !used[token.SHL] || !used[token.AND] {
		t.Error("nets are not rows of bits")
	}
	if used[token.QUO] || used[token.REM] {
		t.Error("sets are taken apart by division")
	}
}

// calls reports whether a function is called by its name in a part of the source.
func calls(part ast.Node, name string) bool {
	found := false
	ast.Inspect(part, func(node ast.Node) bool {
		if call, ok := node.(*ast.CallExpr); ok {
			called, ok := call.Fun.(*ast.Ident)
			found = found || ok && called.Name == name
		}
		return true
	})
	return found
}

// functionOf returns a function of a file.
func functionOf(t *testing.T, tree *ast.File, name string) *ast.FuncDecl {
	t.Helper()
	for _, declared := range tree.Decls {
		if function, ok := declared.(*ast.FuncDecl); ok && function.Name.Name == name {
			return function
		}
	}
	t.Fatalf("%s is not here", name)
	return nil
}

// loopsWithin returns how many loops stand one in the other at most.
func loopsWithin(part ast.Node) int {
	most := 0
	ast.Inspect(part, func(node ast.Node) bool {
		switch node := node.(type) {
		case *ast.ForStmt:
			most = max(most, 1+loopsWithin(node.Body))
			return false
		case *ast.RangeStmt:
			most = max(most, 1+loopsWithin(node.Body))
			return false
		}
		return true
	})
	return most
}

// countsUp reports whether a number of a table is counted up by one.
func countsUp(part ast.Node) bool {
	found := false
	ast.Inspect(part, func(node ast.Node) bool {
		if step, ok := node.(*ast.IncDecStmt); ok && step.Tok == token.INC {
			_, ok := step.X.(*ast.IndexExpr)
			found = found || ok
		}
		return true
	})
	return found
}

// The way of chapter 2: numbers are counted in a table, not compared two by two; wires are gone through in the order of WireList, not looked for among the places.
func TestWayOfRows(t *testing.T) {
	tree := sourceOf(t, "l2_rows.go")
	if !countsUp(tree) {
		t.Error("numbers are not counted in a table")
	}
	if most := loopsWithin(tree); most > 1 {
		t.Errorf("%d loops stand one in the other", most)
	}
	for _, name := range []string{"Differences", "Sums"} {
		if !calls(functionOf(t, tree, name), "WireList") {
			t.Errorf("%s does not go through the wires", name)
		}
	}
}

// callsItself reports whether a function of a file calls itself by its name.
func callsItself(tree *ast.File) bool {
	for _, declared := range tree.Decls {
		if function, ok := declared.(*ast.FuncDecl); ok && function.Body != nil && calls(function.Body, function.Name.Name) {
			return true
		}
	}
	return false
}

// marks reports whether a mark is put: a bit more, or true in a table.
func marks(tree *ast.File) bool {
	found := operators(tree)[token.OR_ASSIGN]
	ast.Inspect(tree, func(node ast.Node) bool {
		if step, ok := node.(*ast.AssignStmt); ok && len(step.Lhs) == 1 {
			_, table := step.Lhs[0].(*ast.IndexExpr)
			name, ok := step.Rhs[0].(*ast.Ident)
			found = found || table && ok && name.Name == "true"
		}
		return true
	})
	return found
}

// The way of chapter 3: numbers are given place by place, each one by a call from the one ahead of it, and differences that came are marked.
func TestWayOfGracefulRows(t *testing.T) {
	tree := sourceOf(t, "l3_graceful.go")
	if !callsItself(tree) {
		t.Error("numbers are not given place by place")
	}
	if !marks(tree) {
		t.Error("differences that came are not marked")
	}
}

// The way of chapter 4: columns are made from the backbone, and rows from the columns, without any search.
func TestWayOfCaterpillars(t *testing.T) {
	tree := sourceOf(t, "l4_caterpillars.go")
	if !calls(functionOf(t, tree, "TwoColumns"), "Backbone") {
		t.Error("legs are not put down beside the backbone")
	}
	if !calls(functionOf(t, tree, "CaterpillarRow"), "TwoColumns") {
		t.Error("rows are not made from the columns")
	}
	if callsItself(tree) {
		t.Error("places are looked for by trying")
	}
	for _, name := range []string{"GracefulOk", "GracefulRows", "GracefulFirst", "GracefulMany", "rowsFrom"} {
		if calls(tree, name) {
			t.Errorf("rows are looked for by %s", name)
		}
	}
}

// The way of chapter 5: the greatest low end and the least high end of all wires are found first, and then compared; no numbers are tried one by one. Of graceful rows those are counted that are parted so.
func TestWayOfPartedRows(t *testing.T) {
	tree := sourceOf(t, "l5_alpha.go")
	if !calls(tree, "WireList") {
		t.Error("the ends of wires are not gone through")
	}
	if most := loopsWithin(tree); most > 1 {
		t.Errorf("%d loops stand one in the other", most)
	}
	if loopsWithin(functionOf(t, tree, "PartedAt")) > 0 || callsItself(tree) {
		t.Error("numbers are tried one by one")
	}
	parted := functionOf(t, tree, "PartedMany")
	if !calls(parted, "GracefulRows") || !calls(parted, "PartedAt") {
		t.Error("graceful rows are not gone through")
	}
	for _, name := range []string{"TurnedSides", "RaisedRow"} {
		if !calls(functionOf(t, tree, name), "PartedAt") {
			t.Errorf("%s does not ask where the row is parted", name)
		}
	}
}

// The way of chapter 6: all wires of all rows turned round are counted in a table of pairs; what covers the ring is told by these counts.
func TestWayOfRowsTurnedRound(t *testing.T) {
	tree := sourceOf(t, "l6_turning.go")
	if !countsUp(tree) {
		t.Error("turned wires are not counted in a table")
	}
	for _, name := range []string{"WireList", "TurnedBy"} {
		if !calls(tree, name) {
			t.Errorf("%s does not tell the wires turned round", name)
		}
	}
	// For each turn all wires: with one loop more each pair would be looked for among them.
	if most := loopsWithin(tree); most != 2 {
		t.Errorf("%d loops stand one in the other", most)
	}
	if !calls(functionOf(t, tree, "CoversOk"), "PairCounts") {
		t.Error("what covers the ring is not told by counts")
	}
	if callsItself(tree) {
		t.Error("rows are looked for by trying")
	}
}

// The way of chapter 7: numbers are given place by place, each one by a call from the one ahead of it, and remainders of sums by the ring are marked, not compared two by two.
func TestWayOfHarmony(t *testing.T) {
	tree := sourceOf(t, "l7_harmony.go")
	if !callsItself(tree) {
		t.Error("numbers are not given place by place")
	}
	if !marks(tree) || !operators(tree)[token.REM] {
		t.Error("sums are not marked round the ring")
	}
	if most := loopsWithin(tree); most > 1 {
		t.Errorf("%d loops stand one in the other", most)
	}
}

// namesCountedUp returns how many names are counted up by one within the bodies of loops.
func namesCountedUp(part ast.Node) int {
	names := map[string]bool{}
	ast.Inspect(part, func(node ast.Node) bool {
		loop, ok := node.(*ast.ForStmt)
		if !ok {
			return true
		}
		ast.Inspect(loop.Body, func(node ast.Node) bool {
			if step, ok := node.(*ast.IncDecStmt); ok && step.Tok == token.INC {
				if name, ok := step.X.(*ast.Ident); ok {
					names[name.Name] = true
				}
			}
			return true
		})
		return false
	})
	return len(names)
}

// The way of chapter 8: all sets are counted up, one by one, and for each of them wires of both kinds are counted; nothing is taken from what chapter 1 tells of trees and sides.
func TestWayOfFriends(t *testing.T) {
	tree := sourceOf(t, "l8_balance.go")
	for _, name := range []string{"FriendlyFirst", "FriendlyGaps", "MostUnlike"} {
		if loopsWithin(functionOf(t, tree, name)) == 0 {
			t.Errorf("%s does not count up the sets", name)
		}
	}
	if !calls(tree, "WireList") || namesCountedUp(tree) != 2 {
		t.Error("wires of both kinds are not counted")
	}
	if callsItself(tree) {
		t.Error("sets are not counted up, but looked for place by place")
	}
	for _, name := range []string{"SidesOf", "TreeOk", "EvenOk", "wavesFrom"} {
		if calls(tree, name) {
			t.Errorf("sets are told by %s", name)
		}
	}
}

// The way of chapter 9: all orders are gone through, and for each gap the wires over it are counted; nothing is taken from what chapter 1 tells of neighbours and parts.
func TestWayOfNarrowRows(t *testing.T) {
	tree := sourceOf(t, "l9_narrow.go")
	for _, name := range []string{"NarrowRow", "NarrowFirst"} {
		if loopsWithin(functionOf(t, tree, name)) == 0 {
			t.Errorf("%s does not go through the orders", name)
		}
	}
	if !calls(tree, "WireList") || !countsUp(tree) {
		t.Error("wires over gaps are not counted")
	}
	for _, name := range []string{"MostNear", "PartMany", "TreeOk", "SidesOf", "wavesFrom"} {
		if calls(tree, name) {
			t.Errorf("orders are told by %s", name)
		}
	}
}

// The way of chapter 10: channels are tried from 0 on, each one by a call from the place ahead of it, and paths are taken by calls, too; spans are not told by paths, nor by neighbours.
func TestWayOfChannels(t *testing.T) {
	tree := sourceOf(t, "l10_channels.go")
	if !calls(functionOf(t, tree, "ChannelFirst"), "channelsFrom") || !calls(functionOf(t, tree, "channelsFrom").Body, "channelsFrom") {
		t.Error("channels are not tried place by place")
	}
	if !calls(functionOf(t, tree, "PathCover"), "pathsOver") || !calls(functionOf(t, tree, "pathsOver").Body, "pathsOver") {
		t.Error("paths are not taken one by one")
	}
	if most := loopsWithin(tree); most > 1 {
		t.Errorf("%d loops stand one in the other", most)
	}
	for _, name := range []string{"MostNear", "PartMany", "TreeOk", "WiresOf", "SidesOf", "wavesFrom", "ordersOf"} {
		if calls(tree, name) {
			t.Errorf("channels are told by %s", name)
		}
	}
	for _, name := range []string{"PathCover", "OtherNet"} {
		if calls(functionOf(t, tree, "FewestSpan"), name) || calls(functionOf(t, tree, "ChannelFirst"), name) {
			t.Errorf("spans are told by %s", name)
		}
	}
}

// The way of chapter 11: common divisors are found by division again and again, one remainder after the other, not looked for number by number; rows are found place by place, each one by a call from the place ahead of it.
func TestWayOfNumbers(t *testing.T) {
	tree := sourceOf(t, "l11_numbers.go")
	if !calls(tree, "commonDivisor") {
		t.Error("common divisors are not asked for")
	}
	divisor := functionOf(t, sourceOf(t, "l7_harmony.go"), "commonDivisor")
	divided := false
	ast.Inspect(divisor, func(node ast.Node) bool {
		if loop, ok := node.(*ast.ForStmt); ok {
			ast.Inspect(loop.Body, func(node ast.Node) bool {
				step, ok := node.(*ast.BinaryExpr)
				divided = divided || ok && step.Op == token.REM
				return true
			})
			if loop.Init != nil || loop.Post != nil {
				t.Error("divisors are tried number by number")
			}
		}
		return true
	})
	if !divided {
		t.Error("divisors are not found by division again and again")
	}
	if !calls(functionOf(t, tree, "PrimeFirst"), "primeFrom") || !calls(functionOf(t, tree, "primeFrom").Body, "primeFrom") {
		t.Error("rows are not found place by place")
	}
	for _, name := range []string{"ordersOf", "rowsFrom", "GracefulRows"} {
		if calls(tree, name) {
			t.Errorf("rows are told by %s", name)
		}
	}
}

// The way of chapter 12: choices are digits of unlike bases: a number is made of them by multiplication, and taken apart by division, in one loop each; no tables are made one after the other, and none are looked for among others.
func TestWayOfTables(t *testing.T) {
	tree := sourceOf(t, "l12_tables.go")
	number, at := functionOf(t, tree, "TableNumber"), functionOf(t, tree, "TableAt")
	if used := operators(number); !used[token.MUL] && !used[token.MUL_ASSIGN] {
		t.Error("numbers are not made of digits")
	}
	used := operators(at)
	if !used[token.REM] && !used[token.REM_ASSIGN] || !used[token.QUO] && !used[token.QUO_ASSIGN] {
		t.Error("numbers are not taken apart into digits")
	}
	if loopsWithin(number) != 1 || loopsWithin(at) != 1 || loopsWithin(tree) > 1 {
		t.Error("digits are not gone through once")
	}
	if callsItself(tree) {
		t.Error("tables are looked for by trying")
	}
	for _, name := range []string{"TableNumber", "TableAt"} {
		if calls(tree, name) {
			t.Errorf("tables are told by %s", name)
		}
	}
	for _, name := range []string{"TableNet", "rowsFrom", "GracefulRows", "ordersOf"} {
		if calls(functionOf(t, tree, "TableOf"), name) {
			t.Errorf("the table of a net is looked for by %s", name)
		}
	}
}

// The way of chapter 13: texts are cut at blanks, piece by piece, and not looked for among those of all nets; bytes have a sum at their end, a remainder of all others together.
func TestWayOfTexts(t *testing.T) {
	tree := sourceOf(t, "l13_lines.go")
	for _, name := range []string{"NetRead", "LineTold"} {
		if !calls(functionOf(t, tree, name), "cutAt") {
			t.Errorf("%s does not cut at blanks", name)
		}
	}
	if !calls(functionOf(t, tree, "NetText"), "WireList") {
		t.Error("texts do not go through the wires")
	}
	bytes := functionOf(t, tree, "NetBytes")
	if !calls(bytes, "sumOf") || !operators(bytes)[token.REM] {
		t.Error("bytes have no sum at their end")
	}
	if most := loopsWithin(tree); most > 1 {
		t.Errorf("%d loops stand one in the other", most)
	}
	if !calls(functionOf(t, tree, "LinesTold"), "LineTold") {
		t.Error("lines are not answered one by one")
	}
}
