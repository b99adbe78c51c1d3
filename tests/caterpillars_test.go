package tests

import (
	"testing"

	"loop.example/labelnets/impl"
)

// atOf returns the index of each place in a column; -1 if it is not there.
func atOf(column []int, places int) []int {
	at := make([]int, places)
	for place := range at {
		at[place] = -1
	}
	for index, place := range column {
		at[place] = index
	}
	return at
}

// crossings returns how many pairs of wires cross, if each one goes from the first column to the second one.
func crossings(wires [][]int, first []int, second []int) int {
	places := len(first) + len(second)
	left, right := atOf(first, places), atOf(second, places)
	begin := func(wire []int) int { return max(left[wire[0]], left[wire[1]]) }
	end := func(wire []int) int { return max(right[wire[0]], right[wire[1]]) }
	many := 0
	for _, one := range wires {
		for _, other := range wires {
			if begin(one) < begin(other) && end(one) > end(other) {
				many++
			}
		}
	}
	return many
}

// Promise 7.
func TestWiresGoFromColumnToColumn(t *testing.T) {
	eachTree(t, func(net []int, table pairTable) {
		first, second := impl.TwoColumns(net)
		if len(first)+len(second) != len(net) || !unlike(append(append([]int{}, first...), second...)) {
			t.Fatalf("TwoColumns(%v) are %v and %v", net, first, second)
		}
		for _, wire := range impl.WireList(net) {
			if hasNumber(first, wire[0]) == hasNumber(first, wire[1]) || hasNumber(second, wire[0]) == hasNumber(second, wire[1]) {
				t.Errorf("the wire %v has both ends in one of %v and %v", wire, first, second)
			}
		}
		if many := crossings(impl.WireList(net), first, second); many != 0 {
			t.Errorf("%d wires cross between %v and %v", many, first, second)
		}
		if backbone := impl.Backbone(net); first[0] != backbone[0] {
			t.Errorf("%v begins with another place than the backbone %v", first, backbone)
		}
	})
}

// Promise 7: just the columns that the document tells, and not others without crossings.
func TestTwoColumnsAreThoseOfTheBackbone(t *testing.T) {
	eachTree(t, func(net []int, table pairTable) {
		wantFirst, wantSecond := columnsOf(table, backboneOf(table))
		first, second := impl.TwoColumns(net)
		if !sameList(first, wantFirst) || !sameList(second, wantSecond) {
			t.Errorf("TwoColumns are %v and %v, not %v and %v", first, second, wantFirst, wantSecond)
		}
	})
}

// Promise 8.
func TestEachCaterpillarIsGraceful(t *testing.T) {
	eachTree(t, func(net []int, table pairTable) {
		row := impl.CaterpillarRow(net)
		if len(row) != len(net) {
			t.Fatalf("CaterpillarRow(%v) is %v", net, row)
		}
		if !impl.GracefulOk(net, row) || !isGraceful(table.wires(), row) {
			t.Errorf("CaterpillarRow is %v, which is not graceful", row)
		}
		if first, _ := impl.TwoColumns(net); row[first[0]] != 0 {
			t.Errorf("the first place of %v has not 0 in %v", first, row)
		}
		if want := rowOfColumns(columnsOf(table, backboneOf(table))); !sameList(row, want) {
			t.Errorf("CaterpillarRow is %v, not %v", row, want)
		}
	})
}

// Promise 48.
func TestSmallTreesAreCaterpillars(t *testing.T) {
	trees := 0
	eachNet(t, func(net []int, table pairTable) {
		ok := impl.CaterpillarOk(net)
		if ok != table.isTree() || ok != impl.TreeOk(net) {
			t.Errorf("CaterpillarOk is %v", ok)
		}
		if ok {
			trees++
		}
	})
	if trees != 1+1+3+16+125+1296 {
		t.Errorf("%d caterpillars", trees)
	}
	for places := 1; places <= mostPlaces; places++ {
		for _, kind := range []int{0, 2} {
			if net := impl.ShapeNet(kind, places); !impl.CaterpillarOk(net) {
				t.Errorf("CaterpillarOk(%v) is false", net)
			}
		}
	}
}

// Promise 49.
func TestBackboneIsAPath(t *testing.T) {
	eachTree(t, func(net []int, table pairTable) {
		backbone := impl.Backbone(net)
		if len(backbone) == 0 || !unlike(backbone) || !table.isPath(backbone) {
			t.Fatalf("Backbone(%v) is %v", net, backbone)
		}
		if backbone[0] > backbone[len(backbone)-1] {
			t.Errorf("%v begins with its end of the greater number", backbone)
		}
		for place := range net {
			inside := hasNumber(backbone, place)
			if inside && len(backbone) > 1 && table.nearMany(place) < 2 {
				t.Errorf("the place %d of %v has %d neighbours", place, backbone, table.nearMany(place))
			}
			if !inside && table.nearMany(place) != 1 {
				t.Errorf("the place %d, which is not in %v, has %d neighbours", place, backbone, table.nearMany(place))
			}
		}
		if legs := impl.LegsOf(net); legs != len(net)-len(backbone) {
			t.Errorf("LegsOf is %d beside %v", legs, backbone)
		}
		if want := backboneOf(table); !sameList(backbone, want) {
			t.Errorf("Backbone is %v, not %v", backbone, want)
		}
	})
}

// Promise 50.
func TestLegsStandAtTheBackbone(t *testing.T) {
	eachTree(t, func(net []int, table pairTable) {
		legs := impl.LegsOf(net)
		if len(net) >= 3 && legs < 2 || legs < 0 || legs > len(net)-1 {
			t.Errorf("LegsOf is %d", legs)
		}
		// With three places or more the legs are the places with one neighbour.
		want := 0
		for place := range net {
			if table.nearMany(place) == 1 {
				want++
			}
		}
		if len(net) >= 3 && legs != want {
			t.Errorf("LegsOf is %d, not %d", legs, want)
		}
	})
	for places := 1; places <= mostPlaces; places++ {
		if legs := impl.LegsOf(impl.ShapeNet(2, places)); legs != places-1 {
			t.Errorf("LegsOf a star of %d places is %d", places, legs)
		}
		if legs := impl.LegsOf(impl.ShapeNet(0, places)); legs != min(places-1, 2) {
			t.Errorf("LegsOf a path of %d places is %d", places, legs)
		}
	}
}

// caterpillar is a net with all that chapter 4 returns for it.
type caterpillar struct {
	net      []int
	backbone []int
	first    []int
	second   []int
	row      []int
}

// toldCaterpillars returns caterpillars whose answers were found by hand.
func toldCaterpillars() []caterpillar {
	return []caterpillar{
		// One place, and two places.
		{[]int{0}, []int{0}, []int{0}, nil, []int{0}},
		{[]int{2, 1}, []int{0}, []int{0}, []int{1}, []int{0, 1}},
		// Three places, each one of them between the others.
		{[]int{6, 1, 1}, []int{0}, []int{0}, []int{1, 2}, []int{0, 2, 1}},
		{[]int{2, 5, 2}, []int{1}, []int{1}, []int{0, 2}, []int{2, 0, 1}},
		{[]int{4, 4, 3}, []int{2}, []int{2}, []int{0, 1}, []int{2, 1, 0}},
		// Paths.
		{[]int{2, 5, 10, 4}, []int{1, 2}, []int{1, 3}, []int{0, 2}, []int{3, 0, 2, 1}},
		{[]int{2, 5, 10, 20, 8}, []int{1, 2, 3}, []int{1, 3}, []int{0, 2, 4}, []int{4, 0, 3, 1, 2}},
		{[]int{2, 5, 10, 20, 40, 16}, []int{1, 2, 3, 4}, []int{1, 3, 5}, []int{0, 2, 4}, []int{5, 0, 4, 1, 3, 2}},
		// Stars: the backbone has one place, and legs whose numbers are less and more.
		{[]int{14, 1, 1, 1}, []int{0}, []int{0}, []int{1, 2, 3}, []int{0, 3, 2, 1}},
		{[]int{16, 16, 16, 16, 15}, []int{4}, []int{4}, []int{0, 1, 2, 3}, []int{4, 3, 2, 1, 0}},
		{[]int{62, 1, 1, 1, 1, 1}, []int{0}, []int{0}, []int{1, 2, 3, 4, 5}, []int{0, 5, 4, 3, 2, 1}},
		{[]int{8, 8, 8, 55, 8, 8}, []int{3}, []int{3}, []int{0, 1, 2, 4, 5}, []int{5, 4, 3, 0, 2, 1}},
		// A backbone of two places with as many legs, whose numbers are less and more.
		{[]int{4, 16, 49, 16, 14, 4}, []int{2, 4}, []int{2, 1, 3}, []int{0, 5, 4}, []int{5, 1, 0, 2, 3, 4}},
		// One with more legs at its end of the greater number, and one with more at that of the lesser one.
		{[]int{34, 1, 32, 32, 32, 29}, []int{0, 5}, []int{0, 2, 3, 4}, []int{1, 5}, []int{0, 5, 1, 2, 3, 4}},
		{[]int{8, 8, 16, 51, 12, 8}, []int{3, 4}, []int{3, 2}, []int{0, 1, 5, 4}, []int{5, 4, 1, 0, 2, 3}},
		// Backbones whose least place is not their end of the lesser number, the second one with a leg at each place.
		{[]int{6, 9, 17, 2, 4}, []int{1, 0, 2}, []int{1, 2}, []int{3, 0, 4}, []int{3, 0, 1, 4, 2}},
		{[]int{56, 8, 16, 3, 5, 1}, []int{3, 0, 4}, []int{3, 5, 4}, []int{1, 0, 2}, []int{4, 5, 3, 0, 2, 1}},
		{[]int{40, 4, 34, 17, 8, 5}, []int{2, 5, 0, 3}, []int{2, 0, 4}, []int{1, 5, 3}, []int{1, 5, 0, 3, 2, 4}},
	}
}

// Promises 7, 8, 48, 49 and 50, told by numbers.
func TestCaterpillarsByNumbers(t *testing.T) {
	for _, c := range toldCaterpillars() {
		if !impl.CaterpillarOk(c.net) {
			t.Errorf("CaterpillarOk(%v) is false", c.net)
		}
		if got := impl.Backbone(c.net); !sameList(got, c.backbone) {
			t.Errorf("Backbone(%v) is %v, not %v", c.net, got, c.backbone)
		}
		if first, second := impl.TwoColumns(c.net); !sameList(first, c.first) || !sameList(second, c.second) {
			t.Errorf("TwoColumns(%v) are %v and %v, not %v and %v", c.net, first, second, c.first, c.second)
		}
		if got := impl.CaterpillarRow(c.net); !sameList(got, c.row) {
			t.Errorf("CaterpillarRow(%v) is %v, not %v", c.net, got, c.row)
		}
		if got := impl.LegsOf(c.net); got != len(c.net)-len(c.backbone) {
			t.Errorf("LegsOf(%v) is %d", c.net, got)
		}
	}
}

// checkNoCaterpillar tells where what is no caterpillar has not the fixed results.
func checkNoCaterpillar(t *testing.T, net []int) {
	t.Helper()
	if impl.CaterpillarOk(net) {
		t.Errorf("CaterpillarOk(%v)", net)
	}
	if got := impl.Backbone(net); len(got) != 0 {
		t.Errorf("Backbone(%v) is %v", net, got)
	}
	if first, second := impl.TwoColumns(net); len(first) != 0 || len(second) != 0 {
		t.Errorf("TwoColumns(%v) are %v and %v", net, first, second)
	}
	if got := impl.CaterpillarRow(net); len(got) != 0 {
		t.Errorf("CaterpillarRow(%v) is %v", net, got)
	}
	if got := impl.LegsOf(net); got != -1 {
		t.Errorf("LegsOf(%v) is %d", net, got)
	}
}

// Promises 7, 8, 48, 49 and 50: all nets that are no trees.
func TestNoTreeIsACaterpillar(t *testing.T) {
	eachNet(t, func(net []int, table pairTable) {
		if !table.isTree() {
			checkNoCaterpillar(t, net)
		}
	})
}

// Promises 7, 8, 48, 49 and 50: nets that are no trees, told by numbers.
func TestNoCaterpillarsByNumbers(t *testing.T) {
	nets := [][]int{
		// Rings, alone and with a leg.
		{6, 5, 3},
		{10, 5, 10, 5},
		{18, 5, 10, 20, 9},
		{34, 5, 10, 20, 40, 17},
		{6, 5, 11, 4},
		{14, 13, 11, 7},
		// Several parts: lone places, two wires, three wires, and a star and a wire.
		{0, 0},
		{0, 0, 0, 0, 0, 0},
		{2, 1, 8, 4},
		{32, 16, 8, 4, 2, 1},
		{14, 1, 1, 1, 32, 16},
		// A lone place beside a path: behind it, ahead of it, and in the midst of it.
		{2, 1, 0},
		{0, 4, 2},
		{4, 0, 1},
		{2, 5, 2, 0},
		{2, 5, 10, 20, 8, 0},
		{0, 4, 10, 20, 40, 16},
		// As many wires as a tree, but a lone place, or a wire, beside a ring.
		{6, 5, 3, 0},
		{0, 12, 10, 6},
		{6, 5, 3, 16, 8},
		{10, 5, 10, 5, 0},
	}
	for _, net := range nets {
		checkNoCaterpillar(t, net)
	}
}

// Promises 7, 8, 48, 49 and 50: what is no net, as it is empty, wrong, or has too many places: also a path and a star of seven, and the least tree that is no caterpillar.
func TestNoNetIsACaterpillar(t *testing.T) {
	nets := append(badNets(),
		[]int{2, 5, 10, 20, 40, 80, 32},
		[]int{126, 1, 1, 1, 1, 1, 1},
		[]int{14, 17, 33, 65, 2, 4, 8},
	)
	for _, net := range nets {
		checkNoCaterpillar(t, net)
	}
}

// The example of chapter 4.
func TestExampleOfCaterpillars(t *testing.T) {
	if got := impl.LegsOf([]int{2, 5, 10, 4}); got != 2 {
		t.Errorf("legs 4 0-1 1-2 2-3: %d", got)
	}
}

// The tests of crossings find them: else they would not see any.
func TestCrossings(t *testing.T) {
	path := impl.WireList([]int{2, 5, 10, 4})
	if many := crossings(path, []int{1, 3}, []int{0, 2}); many != 0 {
		t.Errorf("%d wires cross", many)
	}
	if many := crossings(path, []int{3, 1}, []int{0, 2}); many != 1 {
		t.Errorf("%d wires cross", many)
	}
}
