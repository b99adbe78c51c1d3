package tests

import (
	"testing"

	"loop.example/labelnets/impl"
)

// The table of constants.
func TestMaxPlaces(t *testing.T) {
	if impl.MaxPlaces != mostPlaces {
		t.Errorf("MaxPlaces is %d", impl.MaxPlaces)
	}
}

// wireless returns a net without the wire between two places.
func wireless(net []int, a int, b int) []int {
	less := append([]int{}, net...)
	less[a] -= power(b)
	less[b] -= power(a)
	return less
}

// Promise 1.
func TestTreeFallsApartByEachCut(t *testing.T) {
	trees := make([]int, mostPlaces+1)
	eachNet(t, func(net []int, table pairTable) {
		isTree := table.parts() == 1 && len(table.wires()) == len(table)-1
		if impl.TreeOk(net) != isTree {
			t.Errorf("TreeOk is %v", !isTree)
		}
		if !isTree {
			return
		}
		trees[len(net)]++
		if impl.SidesOf(net) < 0 {
			t.Error("a tree without sides")
		}
		for _, wire := range impl.WireList(net) {
			if parts := impl.PartMany(wireless(net, wire[0], wire[1])); parts != 2 {
				t.Errorf("%d parts without the wire %v", parts, wire)
			}
		}
	})
	// There are so many trees, as places to the power of places less 2.
	if !sameList(trees, []int{0, 1, 1, 3, 16, 125, 1296}) {
		t.Errorf("trees by places: %v", trees)
	}
}

// Promise 1, at one place, at rings, and where places and wires fit, but there are two parts.
func TestTreeOkAtEdges(t *testing.T) {
	cases := []struct {
		net  []int
		want bool
	}{
		{[]int{0}, true},
		{[]int{0, 0}, false},
		{[]int{2, 1}, true},
		{[]int{6, 5, 3}, false},
		{[]int{6, 5, 3, 0}, false},
		{[]int{2, 5, 10, 4}, true},
		{[]int{14, 1, 1, 1}, true},
		{[]int{10, 5, 10, 5}, false},
		{[]int{2, 1, 8, 4}, false},
	}
	for _, c := range cases {
		if impl.TreeOk(c.net) != c.want {
			t.Errorf("TreeOk(%v) is %v", c.net, !c.want)
		}
	}
}

// Promise 2.
func TestWiresGoFromSideToSide(t *testing.T) {
	eachNet(t, func(net []int, table pairTable) {
		side := impl.SidesOf(net)
		if want := table.sides(); side != want {
			t.Errorf("SidesOf is %d, not %d", side, want)
		}
		if side == -1 {
			return
		}
		if !inSet(side, 0) {
			t.Error("the place 0 is not in the set")
		}
		for _, wire := range impl.WireList(net) {
			if inSet(side, wire[0]) == inSet(side, wire[1]) {
				t.Errorf("the wire %v has both ends on one side", wire)
			}
		}
	})
}

// Promise 2, at rings, lone places, and one part with sides beside one without.
func TestSidesAtEdges(t *testing.T) {
	cases := []struct {
		net  []int
		want int
	}{
		{impl.ShapeNet(1, 3), -1},
		{impl.ShapeNet(1, 4), 5},
		{impl.ShapeNet(1, 5), -1},
		{impl.ShapeNet(1, 6), 21},
		{[]int{0}, 1},
		{[]int{0, 0}, 3},
		{[]int{0, 0, 0, 0, 0, 0}, 63},
		{[]int{2, 1, 0}, 5},
		{[]int{0, 4, 2}, 3},
		{[]int{16, 8, 0, 2, 1}, 7},
		{[]int{2, 5, 10, 4}, 5},
		{[]int{14, 1, 1, 1}, 1},
		{[]int{0, 12, 10, 6}, -1},
		{[]int{2, 1, 24, 20, 12}, -1},
	}
	for _, c := range cases {
		if got := impl.SidesOf(c.net); got != c.want {
			t.Errorf("SidesOf(%v) is %d, not %d", c.net, got, c.want)
		}
	}
}

// Promise 35.
func TestNetWithoutAWireIsANet(t *testing.T) {
	eachNet(t, func(net []int, table pairTable) {
		if !impl.NetOk(net) {
			t.Error("NetOk is false")
		}
		wires := impl.WireList(net)
		if len(wires) != len(table.wires()) {
			t.Errorf("%d wires", len(wires))
		}
		for _, wire := range wires {
			for _, end := range wire {
				if end < 0 || end >= len(net) {
					t.Errorf("the end %d is no place", end)
				}
			}
			if !impl.NetOk(wireless(net, wire[0], wire[1])) {
				t.Errorf("no net without the wire %v", wire)
			}
		}
	})
}

// Promise 35: of all rows of numbers around the right ones just those are nets that a table of pairs makes.
func TestNetOkOfAllNumbers(t *testing.T) {
	for places := 1; places <= 3; places++ {
		made := map[[3]int]bool{}
		for code := 0; code < power(places*(places-1)/2); code++ {
			var key [3]int
			copy(key[:], pairsOf(places, code).net())
			made[key] = true
		}
		eachRow(places, -2, power(places)+1, func(row []int) {
			var key [3]int
			copy(key[:], row)
			if impl.NetOk(row) != made[key] {
				t.Errorf("NetOk(%v) is %v", row, !made[key])
			}
		})
	}
}

// eachRow calls check with every row of so many numbers in least..most.
func eachRow(places int, least int, most int, check func(row []int)) {
	row := make([]int, places)
	for at := range row {
		row[at] = least
	}
	for {
		check(row)
		at := 0
		for at < places && row[at] == most {
			row[at] = least
			at++
		}
		if at == places {
			return
		}
		row[at]++
	}
}

// Promise 35: one bit more, or one less, in one set of neighbours alone is no net any more.
func TestNeighboursOneWayOnly(t *testing.T) {
	eachNet(t, func(net []int, table pairTable) {
		for place := range net {
			for other := 0; other <= len(net); other++ {
				changed := append([]int{}, net...)
				if inSet(net[place], other) {
					changed[place] -= power(other)
				} else {
					changed[place] += power(other)
				}
				if impl.NetOk(changed) {
					t.Errorf("NetOk(%v)", changed)
				}
			}
		}
	})
}

// Promise 36.
func TestWiresAreToldOnce(t *testing.T) {
	eachNet(t, func(net []int, table pairTable) {
		want := table.wires()
		wires := impl.WireList(net)
		if len(wires) != len(want) || impl.WiresOf(net) != len(want) {
			t.Fatalf("%d wires are told, and %d counted, not %d", len(wires), impl.WiresOf(net), len(want))
		}
		for at, wire := range wires {
			if !sameList(wire, want[at][:]) {
				t.Errorf("the wire %d is %v, not %v", at, wire, want[at])
			}
			if at > 0 && !ascend(wires[at-1], wire) {
				t.Errorf("%v comes ahead of %v", wires[at-1], wire)
			}
		}
	})
}

// ascend reports whether one pair comes ahead of another one.
func ascend(a []int, b []int) bool {
	return a[0] < b[0] || a[0] == b[0] && a[1] < b[1]
}

// Promise 36, at lone places.
func TestNoWires(t *testing.T) {
	for places := 1; places <= mostPlaces; places++ {
		net := make([]int, places)
		if len(impl.WireList(net)) != 0 || impl.WiresOf(net) != 0 {
			t.Errorf("%v has wires", net)
		}
	}
}

// Promise 37.
func TestEachWireHasTwoEnds(t *testing.T) {
	eachNet(t, func(net []int, table pairTable) {
		ends := 0
		for place := range table {
			ends += table.nearMany(place)
		}
		wires := impl.WiresOf(net)
		if 2*wires != ends {
			t.Errorf("%d wires with %d ends", wires, ends)
		}
		if wires > len(net)*(len(net)-1)/2 {
			t.Errorf("%d wires are more than pairs", wires)
		}
	})
	if got := impl.WiresOf([]int{62, 61, 59, 55, 47, 31}); got != 15 {
		t.Errorf("all pairs of six places are %d wires", got)
	}
}

// Promise 38.
func TestSomePlaceHasTheMost(t *testing.T) {
	eachNet(t, func(net []int, table pairTable) {
		want := 0
		for place := range table {
			want = max(want, table.nearMany(place))
		}
		most := impl.MostNear(net)
		if most != want {
			t.Errorf("MostNear is %d, not %d", most, want)
		}
		wires := impl.WiresOf(net)
		if (most == 0) != (wires == 0) || most >= len(net) || most*len(net) < 2*wires {
			t.Errorf("MostNear is %d of %d wires", most, wires)
		}
	})
}

// Promise 39.
func TestWiresJoinParts(t *testing.T) {
	eachNet(t, func(net []int, table pairTable) {
		parts := impl.PartMany(net)
		if want := table.parts(); parts != want {
			t.Errorf("PartMany is %d, not %d", parts, want)
		}
		wires := impl.WiresOf(net)
		if parts+wires < len(net) || parts < 1 || parts > len(net) || (parts == len(net)) != (wires == 0) {
			t.Errorf("PartMany is %d of %d wires", parts, wires)
		}
	})
}

// Promise 39, at long ways, lone places, and parts that lie between each other.
func TestPartsAtEdges(t *testing.T) {
	cases := []struct {
		net  []int
		want int
	}{
		{[]int{0}, 1},
		{[]int{0, 0}, 2},
		{[]int{0, 0, 0, 0, 0, 0}, 6},
		{[]int{2, 1, 0}, 2},
		{[]int{4, 0, 1}, 2},
		{[]int{4, 8, 17, 34, 4, 8}, 2},
		{[]int{32, 16, 8, 4, 2, 1}, 3},
		{[]int{2, 5, 10, 20, 40, 16}, 1},
		{[]int{32, 24, 48, 2, 6, 5}, 1},
	}
	for _, c := range cases {
		if got := impl.PartMany(c.net); got != c.want {
			t.Errorf("PartMany(%v) is %d, not %d", c.net, got, c.want)
		}
	}
}

// shapeTable returns the table of a shape.
func shapeTable(kind int, places int) pairTable {
	table := pairsOf(places, 0)
	for place := 1; place < places; place++ {
		from := place - 1
		if kind == 2 {
			from = 0
		}
		table[from][place] = true
		table[place][from] = true
	}
	if kind == 1 {
		table[places-1][0] = true
		table[0][places-1] = true
	}
	return table
}

// Promise 40.
func TestShapesAreNets(t *testing.T) {
	for kind := 0; kind <= 2; kind++ {
		least := 1
		if kind == 1 {
			least = 3
		}
		for places := least; places <= mostPlaces; places++ {
			net := impl.ShapeNet(kind, places)
			if want := shapeTable(kind, places).net(); !sameList(net, want) {
				t.Errorf("ShapeNet(%d, %d) is %v, not %v", kind, places, net, want)
			}
			if !impl.NetOk(net) || impl.PartMany(net) != 1 {
				t.Errorf("ShapeNet(%d, %d) is %v: no net of one part", kind, places, net)
			}
			if impl.TreeOk(net) != (kind != 1) {
				t.Errorf("ShapeNet(%d, %d) is %v: TreeOk is %v", kind, places, net, kind == 1)
			}
			if kind == 1 && impl.WiresOf(net) != places {
				t.Errorf("a ring of %d places has %d wires", places, impl.WiresOf(net))
			}
		}
	}
}

// Promise 40, told by numbers.
func TestShapesByNumbers(t *testing.T) {
	cases := []struct {
		kind   int
		places int
		want   []int
	}{
		{0, 1, []int{0}},
		{0, 2, []int{2, 1}},
		{0, 4, []int{2, 5, 10, 4}},
		{0, 6, []int{2, 5, 10, 20, 40, 16}},
		{1, 3, []int{6, 5, 3}},
		{1, 4, []int{10, 5, 10, 5}},
		{1, 6, []int{34, 5, 10, 20, 40, 17}},
		{2, 1, []int{0}},
		{2, 2, []int{2, 1}},
		{2, 4, []int{14, 1, 1, 1}},
		{2, 6, []int{62, 1, 1, 1, 1, 1}},
	}
	for _, c := range cases {
		if got := impl.ShapeNet(c.kind, c.places); !sameList(got, c.want) {
			t.Errorf("ShapeNet(%d, %d) is %v, not %v", c.kind, c.places, got, c.want)
		}
	}
}

// Promise 40: kinds and numbers of places out of range.
func TestNoShapes(t *testing.T) {
	most := int(^uint(0) >> 1)
	cases := [][2]int{
		{-1, 3}, {3, 3}, {most, 3}, {-most - 1, 3},
		{0, 0}, {0, -1}, {0, 7}, {0, most}, {0, -most - 1},
		{1, 0}, {1, 1}, {1, 2}, {1, -3}, {1, 7}, {1, most},
		{2, 0}, {2, -1}, {2, 7}, {2, most}, {2, -most - 1},
		{-1, 0}, {3, 7}, {-1, 2}, {3, 1},
	}
	for _, c := range cases {
		if got := impl.ShapeNet(c[0], c[1]); len(got) != 0 {
			t.Errorf("ShapeNet(%d, %d) is %v", c[0], c[1], got)
		}
	}
}

// Promises 1, 2 and 35 to 39: what is no net has the fixed result of each function.
func TestNoNets(t *testing.T) {
	for _, net := range badNets() {
		if impl.NetOk(net) {
			t.Errorf("NetOk(%v)", net)
		}
		if impl.TreeOk(net) {
			t.Errorf("TreeOk(%v)", net)
		}
		if got := impl.WireList(net); len(got) != 0 {
			t.Errorf("WireList(%v) is %v", net, got)
		}
		if got := impl.WiresOf(net); got != -1 {
			t.Errorf("WiresOf(%v) is %d", net, got)
		}
		if got := impl.MostNear(net); got != -1 {
			t.Errorf("MostNear(%v) is %d", net, got)
		}
		if got := impl.PartMany(net); got != -1 {
			t.Errorf("PartMany(%v) is %d", net, got)
		}
		if got := impl.SidesOf(net); got != -1 {
			t.Errorf("SidesOf(%v) is %d", net, got)
		}
	}
}

// The examples that chapter 1 answers.
func TestExamplesOfNets(t *testing.T) {
	path := []int{2, 5, 10, 4}
	if got := impl.WiresOf(path); got != 3 {
		t.Errorf("wires 4 0-1 1-2 2-3: %d", got)
	}
	if got := impl.SidesOf(path); got != 5 {
		t.Errorf("sides 4 0-1 1-2 2-3: %d", got)
	}
	if got := impl.SidesOf([]int{6, 5, 3}); got != -1 {
		t.Errorf("sides 3 0-1 0-2 1-2: %d", got)
	}
}
