package tests

import (
	"testing"

	"loop.example/labelnets/impl"
)

// eachOrder calls check with every net of less than mostPlaces places, and one of each kind of mostPlaces places, its table, and each of its orders.
func eachOrder(t *testing.T, check func(net []int, table pairTable, order []int)) {
	t.Helper()
	eachKindOfNet(t, func(net []int, table pairTable) {
		eachUnlikeRow(len(net), len(net)-1, func(order []int) {
			check(net, table, order)
			if t.Failed() {
				t.Fatalf("at the net %v and the order %v", net, order)
			}
		})
	})
}

// checkOrder tells where a row is not answered as it is found another way: as an order, or with the fixed results.
func checkOrder(t *testing.T, net []int, table pairTable, row []int) {
	t.Helper()
	if !isOrder(len(net), row) {
		checkNoOrder(t, net, row)
		return
	}
	if !impl.OrderOk(net, row) {
		t.Errorf("OrderOk(%v, %v) is false", net, row)
	}
	stood := table.standing(row)
	if width, want := impl.WidthOf(net, row), stood.widthOf(); width != want {
		t.Errorf("WidthOf(%v, %v) is %d, not %d", net, row, width, want)
	}
	if length, want := impl.LengthOf(net, row), stood.lengthOf(); length != want {
		t.Errorf("LengthOf(%v, %v) is %d, not %d", net, row, length, want)
	}
	if cuts, want := impl.CutsOf(net, row), stood.cutsOf(); !sameList(cuts, want) {
		t.Errorf("CutsOf(%v, %v) are %v, not %v", net, row, cuts, want)
	}
}

// checkNoOrder tells where what is no order of a net has not the fixed results.
func checkNoOrder(t *testing.T, net []int, row []int) {
	t.Helper()
	if impl.OrderOk(net, row) {
		t.Errorf("OrderOk(%v, %v)", net, row)
	}
	if width := impl.WidthOf(net, row); width != -1 {
		t.Errorf("WidthOf(%v, %v) is %d", net, row, width)
	}
	if length := impl.LengthOf(net, row); length != -1 {
		t.Errorf("LengthOf(%v, %v) is %d", net, row, length)
	}
	if cuts := impl.CutsOf(net, row); len(cuts) != 0 {
		t.Errorf("CutsOf(%v, %v) are %v", net, row, cuts)
	}
}

// ownOrder returns the order in which each of so many places has its own number.
func ownOrder(places int) []int {
	var order []int
	for place := 0; place < places; place++ {
		order = append(order, place)
	}
	return order
}

// Promise 19.
func TestWhoHasManyNeighboursMakesRowsWide(t *testing.T) {
	eachOrder(t, func(net []int, table pairTable, order []int) {
		width := impl.WidthOf(net, order)
		if 2*width < impl.MostNear(net) || width > len(net)-1 {
			t.Errorf("WidthOf is %d, and a place has %d neighbours", width, impl.MostNear(net))
		}
		if turned := impl.WidthOf(net, impl.TurnedRow(net, order, len(net)-1)); turned != width {
			t.Errorf("WidthOf is %d, and %d of the order turned", width, turned)
		}
		if (width == 0) != (impl.WiresOf(net) == 0) {
			t.Errorf("WidthOf is %d with %d wires", width, impl.WiresOf(net))
		}
		for _, difference := range impl.Differences(net, order) {
			if difference > width {
				t.Errorf("WidthOf is %d, and there is a difference of %d", width, difference)
			}
		}
	})
}

// Promise 19: of one place with all others as its neighbours the width is just half of them, if it stands in the middle; and each order whose first place is a neighbour of its last one is as wide as can be.
func TestWidthAtBothBounds(t *testing.T) {
	for places := 1; places <= mostPlaces; places++ {
		star := impl.ShapeNet(2, places)
		middle := ownOrder(places)
		middle[0], middle[places/2] = middle[places/2], middle[0]
		if width := impl.WidthOf(star, middle); width != places/2 {
			t.Errorf("WidthOf is %d of the star of %d places, with 0 in the middle", width, places)
		}
		if width := impl.WidthOf(star, ownOrder(places)); width != places-1 {
			t.Errorf("WidthOf is %d of the star of %d places, with 0 at the end", width, places)
		}
	}
	full := 0
	eachOrder(t, func(net []int, table pairTable, order []int) {
		stood := table.standing(order)
		across := stood[0][len(net)-1]
		if across {
			full++
		}
		if width := impl.WidthOf(net, order); (width == len(net)-1) != (across || len(net) == 1) {
			t.Errorf("WidthOf is %d, and the first place is a neighbour of the last one: %v", width, across)
		}
	})
	if full == 0 {
		t.Error("no wire leads from the first number to the last one")
	}
}

// Promise 20.
func TestAllWiresAreAllCuts(t *testing.T) {
	eachOrder(t, func(net []int, table pairTable, order []int) {
		length := impl.LengthOf(net, order)
		together := 0
		for _, many := range impl.CutsOf(net, order) {
			together += many
		}
		if length != together {
			t.Errorf("LengthOf is %d, and all cuts are %d", length, together)
		}
		wires := impl.WiresOf(net)
		if length < wires || length > wires*impl.WidthOf(net, order) {
			t.Errorf("LengthOf is %d of %d wires, the longest of which is %d", length, wires, impl.WidthOf(net, order))
		}
	})
}

// Promise 21.
func TestNarrowRowsHaveSmallCuts(t *testing.T) {
	whole, noughts := 0, 0
	eachOrder(t, func(net []int, table pairTable, order []int) {
		cuts := impl.CutsOf(net, order)
		if len(cuts) != len(net)-1 {
			t.Fatalf("CutsOf are %v of %d places", cuts, len(net))
		}
		width := impl.WidthOf(net, order)
		onePart := impl.PartMany(net) == 1
		for _, many := range cuts {
			if many < 0 || 2*many > width*(width+1) {
				t.Errorf("CutsOf are %v with a width of %d", cuts, width)
			}
			if 2*many == width*(width+1) {
				whole++
			}
			if many == 0 {
				noughts++
				if onePart {
					t.Errorf("CutsOf are %v of one part", cuts)
				}
			}
		}
	})
	if whole == 0 || noughts == 0 {
		t.Errorf("%d cuts are as great as can be, and %d are 0", whole, noughts)
	}
}

// Promise 21: the cuts of an order turned are those of the order from the other end.
func TestCutsOfAnOrderTurned(t *testing.T) {
	eachOrder(t, func(net []int, table pairTable, order []int) {
		cuts := impl.CutsOf(net, order)
		turned := impl.CutsOf(net, turnedOf(order, len(net)-1))
		if len(turned) != len(cuts) {
			t.Fatalf("CutsOf are %v, and %v of the order turned", cuts, turned)
		}
		for at := range cuts {
			if cuts[at] != turned[len(turned)-1-at] {
				t.Errorf("CutsOf are %v, and %v of the order turned", cuts, turned)
			}
		}
	})
}

// Promises 19 to 21 and 59: each order is answered as it is found another way.
func TestOrdersAreAnsweredAsTold(t *testing.T) {
	eachOrder(t, func(net []int, table pairTable, order []int) {
		checkOrder(t, net, table, order)
	})
}

// Promises 19 to 21 and 59: of all rows of numbers around the right ones just the orders are answered.
func TestRowsAreOrdersOrNot(t *testing.T) {
	eachNetUpTo(t, 3, func(net []int, table pairTable) {
		eachRow(len(net), -2, len(net)+2, func(row []int) {
			checkOrder(t, net, table, row)
		})
	})
	eachNetUpTo(t, 4, func(net []int, table pairTable) {
		eachRow(len(net), -1, len(net), func(row []int) {
			checkOrder(t, net, table, row)
		})
	})
	for _, kind := range []int{0, 1, 2} {
		for places := 5; places <= mostPlaces; places++ {
			table := shapeTable(kind, places)
			net := table.net()
			eachRow(places, 0, places, func(row []int) {
				checkOrder(t, net, table, row)
			})
		}
	}
}

// Promises 19 to 21, told by numbers.
func TestOrdersByNumbers(t *testing.T) {
	cases := []struct {
		net    []int
		order  []int
		width  int
		length int
		cuts   []int
	}{
		// One place, and lone ones.
		{[]int{0}, []int{0}, 0, 0, nil},
		{[]int{0, 0}, []int{0, 1}, 0, 0, []int{0}},
		{[]int{0, 0}, []int{1, 0}, 0, 0, []int{0}},
		{[]int{0, 0, 0}, []int{1, 2, 0}, 0, 0, []int{0, 0}},
		{[]int{0, 0, 0, 0, 0, 0}, []int{5, 0, 4, 1, 3, 2}, 0, 0, []int{0, 0, 0, 0, 0}},
		// One wire, beside lone places too: from end to end, and at each end with gaps that no wire goes over.
		{[]int{2, 1}, []int{0, 1}, 1, 1, []int{1}},
		{[]int{2, 1}, []int{1, 0}, 1, 1, []int{1}},
		{[]int{2, 1, 0}, []int{0, 1, 2}, 1, 1, []int{1, 0}},
		{[]int{2, 1, 0}, []int{0, 2, 1}, 2, 2, []int{1, 1}},
		{[]int{2, 1, 0}, []int{2, 1, 0}, 1, 1, []int{0, 1}},
		{[]int{2, 1, 0}, []int{1, 2, 0}, 1, 1, []int{0, 1}},
		{[]int{8, 0, 0, 1}, []int{0, 1, 2, 3}, 3, 3, []int{1, 1, 1}},
		{[]int{8, 0, 0, 1}, []int{3, 2, 1, 0}, 3, 3, []int{1, 1, 1}},
		{[]int{8, 0, 0, 1}, []int{1, 0, 3, 2}, 1, 1, []int{0, 1, 0}},
		{[]int{8, 0, 0, 1}, []int{2, 0, 1, 3}, 1, 1, []int{0, 0, 1}},
		{[]int{32, 0, 0, 0, 0, 1}, []int{0, 1, 2, 3, 4, 5}, 5, 5, []int{1, 1, 1, 1, 1}},
		{[]int{32, 0, 0, 0, 0, 1}, []int{4, 5, 0, 1, 2, 3}, 1, 1, []int{0, 0, 0, 1, 0}},
		// Wires side by side, and one across the other.
		{[]int{2, 1, 8, 4}, []int{0, 1, 2, 3}, 1, 2, []int{1, 0, 1}},
		{[]int{2, 1, 8, 4}, []int{0, 3, 1, 2}, 3, 4, []int{1, 2, 1}},
		{[]int{2, 1, 8, 4}, []int{0, 2, 1, 3}, 2, 4, []int{1, 2, 1}},
		{[]int{2, 1, 8, 4, 0}, []int{0, 1, 3, 4, 2}, 1, 2, []int{1, 0, 0, 1}},
		{[]int{32, 16, 8, 4, 2, 1}, []int{0, 1, 2, 3, 4, 5}, 5, 9, []int{1, 2, 3, 2, 1}},
		{[]int{32, 16, 8, 4, 2, 1}, []int{0, 2, 4, 5, 3, 1}, 1, 3, []int{1, 0, 1, 0, 1}},
		// Paths.
		{[]int{2, 5, 2}, []int{0, 1, 2}, 1, 2, []int{1, 1}},
		{[]int{2, 5, 2}, []int{0, 2, 1}, 2, 3, []int{1, 2}},
		{[]int{2, 5, 2}, []int{1, 0, 2}, 2, 3, []int{2, 1}},
		{[]int{2, 5, 10, 4}, []int{0, 1, 2, 3}, 1, 3, []int{1, 1, 1}},
		{[]int{2, 5, 10, 4}, []int{3, 2, 1, 0}, 1, 3, []int{1, 1, 1}},
		{[]int{2, 5, 10, 4}, []int{2, 0, 3, 1}, 3, 7, []int{2, 3, 2}},
		{[]int{2, 5, 10, 4}, []int{0, 3, 1, 2}, 3, 6, []int{1, 3, 2}},
		{[]int{2, 5, 10, 4}, []int{0, 2, 3, 1}, 2, 5, []int{1, 2, 2}},
		{[]int{4, 8, 9, 6}, []int{0, 3, 1, 2}, 1, 3, []int{1, 1, 1}},
		{[]int{2, 5, 10, 20, 8}, []int{0, 4, 1, 3, 2}, 4, 10, []int{1, 3, 4, 2}},
		{[]int{2, 5, 10, 20, 40, 16}, []int{0, 5, 1, 4, 2, 3}, 5, 15, []int{1, 3, 5, 4, 2}},
		// Stars, and another tree.
		{[]int{14, 1, 1, 1}, []int{0, 1, 2, 3}, 3, 6, []int{3, 2, 1}},
		{[]int{14, 1, 1, 1}, []int{3, 2, 1, 0}, 3, 6, []int{1, 2, 3}},
		{[]int{14, 1, 1, 1}, []int{1, 0, 2, 3}, 2, 4, []int{1, 2, 1}},
		{[]int{14, 1, 1, 1}, []int{2, 0, 1, 3}, 2, 4, []int{1, 2, 1}},
		{[]int{62, 1, 1, 1, 1, 1}, []int{0, 1, 2, 3, 4, 5}, 5, 15, []int{5, 4, 3, 2, 1}},
		{[]int{62, 1, 1, 1, 1, 1}, []int{2, 0, 1, 3, 4, 5}, 3, 9, []int{1, 2, 3, 2, 1}},
		{[]int{32, 32, 32, 32, 32, 31}, []int{0, 1, 2, 3, 4, 5}, 5, 15, []int{1, 2, 3, 4, 5}},
		{[]int{2, 13, 2, 18, 8}, []int{0, 1, 2, 3, 4}, 2, 5, []int{1, 2, 1, 1}},
		{[]int{2, 13, 2, 18, 8}, []int{4, 0, 3, 1, 2}, 4, 9, []int{3, 3, 2, 1}},
		// Rings, alone and beside others.
		{[]int{6, 5, 3}, []int{0, 1, 2}, 2, 4, []int{2, 2}},
		{[]int{6, 5, 3}, []int{2, 0, 1}, 2, 4, []int{2, 2}},
		{[]int{10, 5, 10, 5}, []int{0, 1, 2, 3}, 3, 6, []int{2, 2, 2}},
		{[]int{10, 5, 10, 5}, []int{0, 1, 3, 2}, 2, 6, []int{2, 2, 2}},
		{[]int{10, 5, 10, 5}, []int{0, 2, 1, 3}, 3, 8, []int{2, 4, 2}},
		{[]int{18, 5, 10, 20, 9}, []int{0, 1, 2, 3, 4}, 4, 8, []int{2, 2, 2, 2}},
		{[]int{18, 5, 10, 20, 9}, []int{0, 1, 3, 4, 2}, 2, 8, []int{2, 2, 2, 2}},
		{[]int{34, 5, 10, 20, 40, 17}, []int{0, 1, 3, 5, 4, 2}, 2, 10, []int{2, 2, 2, 2, 2}},
		{[]int{34, 5, 10, 20, 40, 17}, []int{5, 4, 3, 2, 1, 0}, 5, 10, []int{2, 2, 2, 2, 2}},
		{[]int{6, 5, 3, 0}, []int{0, 1, 3, 2}, 3, 6, []int{2, 2, 2}},
		{[]int{6, 5, 3, 48, 40, 24}, []int{0, 1, 2, 3, 4, 5}, 2, 8, []int{2, 2, 0, 2, 2}},
		{[]int{6, 5, 3, 48, 40, 24}, []int{0, 2, 4, 1, 3, 5}, 4, 16, []int{2, 4, 4, 4, 2}},
		{[]int{6, 5, 3, 16, 8}, []int{3, 4, 2, 0, 1}, 2, 5, []int{1, 0, 2, 2}},
		// Other nets, and all pairs of places.
		{[]int{6, 5, 11, 4}, []int{0, 1, 2, 3}, 2, 5, []int{2, 2, 1}},
		{[]int{6, 5, 11, 4}, []int{3, 1, 0, 2}, 3, 8, []int{3, 3, 2}},
		{[]int{14, 13, 11, 7}, []int{0, 1, 2, 3}, 3, 10, []int{3, 4, 3}},
		{[]int{14, 13, 11, 7}, []int{2, 0, 3, 1}, 3, 10, []int{3, 4, 3}},
		{[]int{30, 29, 27, 23, 15}, []int{4, 1, 3, 0, 2}, 4, 20, []int{4, 6, 6, 4}},
		{[]int{62, 61, 59, 55, 47, 31}, []int{0, 1, 2, 3, 4, 5}, 5, 35, []int{5, 8, 9, 8, 5}},
		{[]int{62, 61, 59, 55, 47, 31}, []int{3, 5, 0, 2, 4, 1}, 5, 35, []int{5, 8, 9, 8, 5}},
		// Orders of one net: the first one has the least width, the second one the least length and the least cut, and the third one none of them.
		{[]int{42, 21, 10, 5, 2, 1}, []int{1, 3, 4, 2, 5, 0}, 2, 9, []int{1, 2, 2, 3, 1}},
		{[]int{42, 21, 10, 5, 2, 1}, []int{1, 4, 3, 2, 5, 0}, 3, 8, []int{1, 2, 2, 2, 1}},
		{[]int{42, 21, 10, 5, 2, 1}, []int{2, 3, 4, 1, 5, 0}, 3, 10, []int{1, 3, 2, 3, 1}},
	}
	for _, c := range cases {
		if !impl.OrderOk(c.net, c.order) {
			t.Errorf("OrderOk(%v, %v) is false", c.net, c.order)
		}
		if width := impl.WidthOf(c.net, c.order); width != c.width {
			t.Errorf("WidthOf(%v, %v) is %d, not %d", c.net, c.order, width, c.width)
		}
		if length := impl.LengthOf(c.net, c.order); length != c.length {
			t.Errorf("LengthOf(%v, %v) is %d, not %d", c.net, c.order, length, c.length)
		}
		if cuts := impl.CutsOf(c.net, c.order); !sameList(cuts, c.cuts) {
			t.Errorf("CutsOf(%v, %v) are %v, not %v", c.net, c.order, cuts, c.cuts)
		}
	}
}

// checkBounds tells where the three numbers of NarrowRow are not bound to each other.
func checkBounds(t *testing.T, net []int) {
	t.Helper()
	narrow := impl.NarrowRow(net)
	if len(narrow) != 3 {
		t.Fatalf("NarrowRow(%v) is %v", net, narrow)
	}
	width, length, cut := narrow[0], narrow[1], narrow[2]
	wires := impl.WiresOf(net)
	if wires > 0 && width < 1 || wires == 0 && width != 0 {
		t.Errorf("NarrowRow(%v) is %v with %d wires", net, narrow, wires)
	}
	// Without a ring each wire joins two parts, so that there is one part less with each of them.
	ringless := wires+impl.PartMany(net) == len(net)
	if wires > 0 && (width == 1) != (impl.MostNear(net) < 3 && ringless) {
		t.Errorf("NarrowRow(%v) is %v, at most %d neighbours, and no ring: %v", net, narrow, impl.MostNear(net), ringless)
	}
	if length < wires || 2*cut > width*(width+1) || cut < 0 {
		t.Errorf("NarrowRow(%v) is %v with %d wires", net, narrow, wires)
	}
}

// Promise 22.
func TestTheThreeAreBoundToEachOther(t *testing.T) {
	eachKindOfNet(t, func(net []int, table pairTable) {
		checkBounds(t, net)
	})
	eachTree(t, func(net []int, table pairTable) {
		checkBounds(t, net)
	})
}

// checkNarrow tells where NarrowRow and NarrowFirst are not what one finds by trying all orders.
func checkNarrow(t *testing.T, net []int, table pairTable) {
	t.Helper()
	want, wantFirst := narrowOf(table)
	if narrow := impl.NarrowRow(net); !sameList(narrow, want) {
		t.Errorf("NarrowRow(%v) is %v, not %v", net, narrow, want)
	}
	if first := impl.NarrowFirst(net); !sameList(first, wantFirst) {
		t.Errorf("NarrowFirst(%v) is %v, not %v", net, first, wantFirst)
	}
}

// Promises 22 and 60: just the leasts, and just the first order, that one finds by trying all orders; also of each kind with its places called anew.
func TestNarrowIsWhatIsFoundByTrying(t *testing.T) {
	eachKindOfNet(t, func(net []int, table pairTable) {
		checkNarrow(t, net, table)
		for _, order := range someOrders(len(net)) {
			renamed := table.renamed(order)
			checkNarrow(t, renamed.net(), renamed)
		}
	})
}

// Promise 22: the three numbers do not hang on how places are called.
func TestNarrowRowOfPlacesCalledAnew(t *testing.T) {
	for _, table := range kindsOf(mostPlaces) {
		want := impl.NarrowRow(table.net())
		for _, order := range someOrders(mostPlaces) {
			net := table.renamed(order).net()
			if narrow := impl.NarrowRow(net); !sameList(narrow, want) {
				t.Errorf("NarrowRow(%v) is %v, not %v", net, narrow, want)
			}
		}
	}
}

// Promises 22 and 60, told by numbers.
func TestNarrowByNumbers(t *testing.T) {
	cases := []struct {
		net    []int
		narrow []int
		first  []int
	}{
		// Without wires no order is wider than the first one.
		{[]int{0}, []int{0, 0, 0}, []int{0}},
		{[]int{0, 0}, []int{0, 0, 0}, []int{0, 1}},
		{[]int{0, 0, 0}, []int{0, 0, 0}, []int{0, 1, 2}},
		{[]int{0, 0, 0, 0}, []int{0, 0, 0}, []int{0, 1, 2, 3}},
		{[]int{0, 0, 0, 0, 0}, []int{0, 0, 0}, []int{0, 1, 2, 3, 4}},
		{[]int{0, 0, 0, 0, 0, 0}, []int{0, 0, 0}, []int{0, 1, 2, 3, 4, 5}},
		// One wire, beside lone places too.
		{[]int{2, 1}, []int{1, 1, 1}, []int{0, 1}},
		{[]int{2, 1, 0}, []int{1, 1, 1}, []int{0, 1, 2}},
		{[]int{0, 4, 2}, []int{1, 1, 1}, []int{0, 1, 2}},
		{[]int{4, 0, 1}, []int{1, 1, 1}, []int{0, 2, 1}},
		{[]int{2, 1, 0, 0}, []int{1, 1, 1}, []int{0, 1, 2, 3}},
		{[]int{0, 0, 8, 4}, []int{1, 1, 1}, []int{0, 1, 2, 3}},
		{[]int{8, 0, 0, 1}, []int{1, 1, 1}, []int{0, 2, 3, 1}},
		{[]int{2, 1, 0, 0, 0}, []int{1, 1, 1}, []int{0, 1, 2, 3, 4}},
		{[]int{0, 0, 0, 0, 32, 16}, []int{1, 1, 1}, []int{0, 1, 2, 3, 4, 5}},
		{[]int{32, 0, 0, 0, 0, 1}, []int{1, 1, 1}, []int{0, 2, 3, 4, 5, 1}},
		// Wires side by side.
		{[]int{2, 1, 8, 4}, []int{1, 2, 1}, []int{0, 1, 2, 3}},
		{[]int{4, 8, 1, 2}, []int{1, 2, 1}, []int{0, 2, 1, 3}},
		{[]int{8, 4, 2, 1}, []int{1, 2, 1}, []int{0, 2, 3, 1}},
		{[]int{2, 1, 8, 4, 0}, []int{1, 2, 1}, []int{0, 1, 2, 3, 4}},
		{[]int{32, 16, 8, 4, 2, 1}, []int{1, 3, 1}, []int{0, 2, 4, 5, 3, 1}},
		// Paths.
		{[]int{2, 5, 2}, []int{1, 2, 1}, []int{0, 1, 2}},
		{[]int{6, 1, 1}, []int{1, 2, 1}, []int{1, 0, 2}},
		{[]int{2, 5, 10, 4}, []int{1, 3, 1}, []int{0, 1, 2, 3}},
		{[]int{4, 8, 9, 6}, []int{1, 3, 1}, []int{0, 3, 1, 2}},
		{[]int{2, 5, 10, 20, 8}, []int{1, 4, 1}, []int{0, 1, 2, 3, 4}},
		{[]int{2, 5, 10, 20, 40, 16}, []int{1, 5, 1}, []int{0, 1, 2, 3, 4, 5}},
		{[]int{32, 24, 48, 2, 6, 5}, []int{1, 5, 1}, []int{0, 4, 2, 5, 3, 1}},
		// Stars, and other trees.
		{[]int{14, 1, 1, 1}, []int{2, 4, 2}, []int{1, 0, 2, 3}},
		{[]int{8, 8, 8, 7}, []int{2, 4, 2}, []int{0, 1, 3, 2}},
		{[]int{30, 1, 1, 1, 1}, []int{2, 6, 2}, []int{2, 0, 1, 3, 4}},
		{[]int{16, 16, 16, 16, 15}, []int{2, 6, 2}, []int{0, 1, 3, 4, 2}},
		{[]int{62, 1, 1, 1, 1, 1}, []int{3, 9, 3}, []int{2, 0, 1, 3, 4, 5}},
		{[]int{32, 32, 32, 32, 32, 31}, []int{3, 9, 3}, []int{0, 1, 2, 4, 5, 3}},
		{[]int{2, 13, 2, 18, 8}, []int{2, 5, 2}, []int{0, 1, 2, 3, 4}},
		{[]int{2, 5, 42, 4, 32, 20}, []int{2, 6, 2}, []int{0, 1, 2, 3, 5, 4}},
		// Rings, alone and beside lone places.
		{[]int{6, 5, 3}, []int{2, 4, 2}, []int{0, 1, 2}},
		{[]int{10, 5, 10, 5}, []int{2, 6, 2}, []int{0, 1, 3, 2}},
		{[]int{12, 12, 3, 3}, []int{2, 6, 2}, []int{0, 3, 1, 2}},
		{[]int{18, 5, 10, 20, 9}, []int{2, 8, 2}, []int{0, 1, 3, 4, 2}},
		{[]int{34, 5, 10, 20, 40, 17}, []int{2, 10, 2}, []int{0, 1, 3, 5, 4, 2}},
		{[]int{6, 5, 3, 0}, []int{2, 4, 2}, []int{0, 1, 2, 3}},
		{[]int{0, 12, 10, 6}, []int{2, 4, 2}, []int{0, 1, 2, 3}},
		{[]int{10, 5, 10, 5, 0}, []int{2, 6, 2}, []int{0, 1, 3, 2, 4}},
		{[]int{6, 5, 3, 0, 0, 0}, []int{2, 4, 2}, []int{0, 1, 2, 3, 4, 5}},
		{[]int{18, 5, 10, 20, 9, 0}, []int{2, 8, 2}, []int{0, 1, 3, 4, 2, 5}},
		// Nets of several parts: rings, a ring and a wire, and a path and a wire, which alone of these is narrow.
		{[]int{6, 5, 3, 48, 40, 24}, []int{2, 8, 2}, []int{0, 1, 2, 3, 4, 5}},
		{[]int{6, 5, 3, 16, 8}, []int{2, 5, 2}, []int{0, 1, 2, 3, 4}},
		{[]int{34, 5, 2, 16, 8, 1}, []int{1, 4, 1}, []int{1, 2, 3, 4, 5, 0}},
		// Other nets.
		{[]int{30, 29, 3, 3, 3}, []int{3, 12, 4}, []int{1, 2, 0, 3, 4}},
		{[]int{46, 45, 27, 23, 12, 3}, []int{3, 16, 4}, []int{1, 2, 3, 4, 5, 0}},
		{[]int{58, 53, 10, 5, 3, 3}, []int{3, 14, 4}, []int{1, 2, 5, 3, 0, 4}},
		{[]int{60, 60, 51, 51, 15, 15}, []int{4, 26, 6}, []int{0, 5, 1, 2, 3, 4}},
		{[]int{6, 5, 11, 4}, []int{2, 5, 2}, []int{0, 1, 2, 3}},
		{[]int{14, 5, 11, 5}, []int{2, 7, 3}, []int{1, 0, 2, 3}},
		{[]int{62, 5, 3, 33, 33, 25}, []int{3, 12, 3}, []int{2, 0, 1, 3, 4, 5}},
		{[]int{28, 28, 3, 3, 3}, []int{3, 10, 3}, []int{0, 4, 1, 2, 3}},
		{[]int{56, 56, 56, 7, 7, 7}, []int{4, 19, 5}, []int{0, 1, 5, 2, 3, 4}},
		{[]int{62, 61, 3, 3, 3, 3}, []int{3, 17, 5}, []int{2, 3, 0, 1, 4, 5}},
		{[]int{62, 29, 27, 23, 15, 1}, []int{4, 21, 6}, []int{1, 0, 2, 3, 4, 5}},
		// All pairs of places, beside lone ones too.
		{[]int{14, 13, 11, 7}, []int{3, 10, 4}, []int{0, 1, 2, 3}},
		{[]int{30, 29, 27, 23, 15}, []int{4, 20, 6}, []int{0, 1, 2, 3, 4}},
		{[]int{62, 61, 59, 55, 47, 31}, []int{5, 35, 9}, []int{0, 1, 2, 3, 4, 5}},
		{[]int{14, 13, 11, 7, 0, 0}, []int{3, 10, 4}, []int{0, 1, 2, 3, 4, 5}},
		{[]int{30, 29, 27, 23, 15, 0}, []int{4, 20, 6}, []int{0, 1, 2, 3, 4, 5}},
		{[]int{0, 60, 58, 54, 46, 30}, []int{4, 20, 6}, []int{0, 1, 2, 3, 4, 5}},
		// No order of these has all three leasts.
		{[]int{42, 21, 10, 5, 2, 1}, []int{2, 8, 2}, []int{1, 3, 4, 2, 5, 0}},
		{[]int{60, 28, 11, 7, 3, 1}, []int{3, 13, 4}, []int{1, 5, 2, 3, 4, 0}},
		{[]int{60, 60, 27, 7, 7, 3}, []int{3, 19, 5}, []int{2, 3, 1, 0, 4, 5}},
		{[]int{58, 57, 56, 23, 15, 7}, []int{4, 21, 5}, []int{0, 1, 5, 2, 3, 4}},
	}
	for _, c := range cases {
		if narrow := impl.NarrowRow(c.net); !sameList(narrow, c.narrow) {
			t.Errorf("NarrowRow(%v) is %v, not %v", c.net, narrow, c.narrow)
		}
		if first := impl.NarrowFirst(c.net); !sameList(first, c.first) {
			t.Errorf("NarrowFirst(%v) is %v, not %v", c.net, first, c.first)
		}
	}
}

// Promise 22: paths, rings, stars and all pairs of places have leasts that one can tell without any order.
func TestNarrowRowOfShapes(t *testing.T) {
	for places := 2; places <= mostPlaces; places++ {
		half := places / 2
		cases := []struct {
			net  []int
			want []int
		}{
			{impl.ShapeNet(0, places), []int{1, places - 1, 1}},
			// The middle of a star stands between two halves of its legs.
			{impl.ShapeNet(2, places), []int{half, places * places / 4, half}},
			// All orders of all pairs are the same.
			{pairsOf(places, power(places*(places-1)/2)-1).net(), []int{places - 1, (places - 1) * places * (places + 1) / 6, half * (places - half)}},
		}
		for _, c := range cases {
			if narrow := impl.NarrowRow(c.net); !sameList(narrow, c.want) {
				t.Errorf("NarrowRow(%v) is %v, not %v", c.net, narrow, c.want)
			}
		}
	}
	for places := 3; places <= mostPlaces; places++ {
		// Each gap is gone over there and back.
		if narrow := impl.NarrowRow(impl.ShapeNet(1, places)); !sameList(narrow, []int{2, 2 * (places - 1), 2}) {
			t.Errorf("NarrowRow is %v of the ring of %d places", narrow, places)
		}
	}
}

// Promise 22: no order of these nets has the least width and the least length, and none of the first one the least width and the least cut, so that each of the three is to be taken by itself.
func TestLeastsOfUnlikeOrders(t *testing.T) {
	cases := []struct {
		net     []int
		narrow  []int
		withCut bool
	}{
		{[]int{42, 21, 10, 5, 2, 1}, []int{2, 8, 2}, false},
		{[]int{60, 28, 11, 7, 3, 1}, []int{3, 13, 4}, true},
		{[]int{60, 60, 27, 7, 7, 3}, []int{3, 19, 5}, true},
		{[]int{58, 57, 56, 23, 15, 7}, []int{4, 21, 5}, true},
	}
	for _, c := range cases {
		if narrow := impl.NarrowRow(c.net); !sameList(narrow, c.narrow) {
			t.Errorf("NarrowRow(%v) is %v, not %v", c.net, narrow, c.narrow)
		}
		withLength, withCut := false, false
		eachUnlikeRow(len(c.net), len(c.net)-1, func(order []int) {
			narrow := impl.WidthOf(c.net, order) == c.narrow[0]
			withLength = withLength || narrow && impl.LengthOf(c.net, order) == c.narrow[1]
			withCut = withCut || narrow && greatest(impl.CutsOf(c.net, order)) == c.narrow[2]
		})
		if withLength || withCut != c.withCut {
			t.Errorf("at %v an order has the least width and the least length: %v, the least width and the least cut: %v", c.net, withLength, withCut)
		}
	}
}

// Promise 59.
func TestOrdersTurnedAreOrders(t *testing.T) {
	eachNet(t, func(net []int, table pairTable) {
		if !impl.OrderOk(net, ownOrder(len(net))) {
			t.Error("OrderOk is false of the places in their own order")
		}
		if !impl.OrderOk(net, impl.TurnedRow(net, ownOrder(len(net)), len(net)-1)) {
			t.Error("OrderOk is false of the places in their own order turned")
		}
	})
	eachOrder(t, func(net []int, table pairTable, order []int) {
		if !impl.OrderOk(net, order) {
			t.Error("OrderOk is false")
		}
		if !impl.OrderOk(net, impl.TurnedRow(net, order, len(net)-1)) {
			t.Error("OrderOk is false of the order turned")
		}
		// Turned by one more the greatest number is as great as the number of places; no number is 0 then.
		if impl.OrderOk(net, impl.TurnedRow(net, order, len(net))) {
			t.Error("OrderOk of the order turned by too much")
		}
	})
}

// Promise 60.
func TestFirstOrderIsAsNarrowAsCanBe(t *testing.T) {
	check := func(net []int) {
		first := impl.NarrowFirst(net)
		if !impl.OrderOk(net, first) {
			t.Errorf("NarrowFirst(%v) is %v, which is no order", net, first)
		}
		if narrow := impl.NarrowRow(net); len(narrow) != 3 || impl.WidthOf(net, first) != narrow[0] {
			t.Errorf("NarrowFirst(%v) is %v, and NarrowRow %v", net, first, narrow)
		}
	}
	eachKindOfNet(t, func(net []int, table pairTable) { check(net) })
	eachTree(t, func(net []int, table pairTable) { check(net) })
}

// Promise 60: each order ahead of the first one is wider, and no order is narrower.
func TestNoOrderAheadOfTheFirstIsAsNarrow(t *testing.T) {
	own, others := 0, 0
	eachKindOfNet(t, func(net []int, table pairTable) {
		first := impl.NarrowFirst(net)
		if len(first) != len(net) {
			t.Fatalf("NarrowFirst is %v", first)
		}
		if sameList(first, ownOrder(len(net))) {
			own++
		} else {
			others++
		}
		width := table.standing(first).widthOf()
		eachUnlikeRow(len(net), len(net)-1, func(order []int) {
			its := table.standing(order).widthOf()
			if its < width || its == width && comesAhead(order, first) {
				t.Errorf("NarrowFirst is %v, but %v has a width of %d", first, order, its)
			}
		})
	})
	if own == 0 || others == 0 {
		t.Errorf("%d first orders are the places in their own order, and %d are others", own, others)
	}
}

// Promises 19 to 21, 59 and 60: one number of an order is changed, so that it is no order any more: to that of another place, below 0, to the number of places, and to others too great.
func TestOrdersWithOneNumberChanged(t *testing.T) {
	most := int(^uint(0) >> 1)
	eachOrder(t, func(net []int, table pairTable, order []int) {
		places := len(net)
		// Of six places there are many orders: so just those are taken in which the place 0 is at one of both ends.
		if places == mostPlaces && order[0] != 0 && order[0] != places-1 {
			return
		}
		for place := range order {
			for _, number := range []int{-1, places, order[(place+1)%places], places + 1} {
				if number == order[place] {
					continue
				}
				row := append([]int{}, order...)
				row[place] = number
				checkNoOrder(t, net, row)
			}
		}
	})
	eachKindOfNet(t, func(net []int, table pairTable) {
		for place := range net {
			for _, number := range []int{-most - 1, -most, -1 << 32, -31, -30, 30, 31, 64, 1 << 32, 1 << 40, most - 1, most} {
				row := ownOrder(len(net))
				row[place] = number
				checkNoOrder(t, net, row)
			}
		}
	})
}

// Promises 19 to 21 and 59: rows moved on by 1, or by -1, are no orders, though all of their numbers are unlike.
func TestOrdersMovedAreNoOrders(t *testing.T) {
	eachKindOfNet(t, func(net []int, table pairTable) {
		for _, by := range []int{-1, 1, 2, mostLabel - len(net) + 1} {
			checkNoOrder(t, net, movedOf(ownOrder(len(net)), by))
		}
	})
}

// Promises 19 to 21 and 59: rows of more or fewer numbers than places, and empty ones; also those that would be orders of nets of as many places.
func TestOrdersOfAnotherLength(t *testing.T) {
	eachKindOfNet(t, func(net []int, table pairTable) {
		checkNoOrder(t, net, nil)
		checkNoOrder(t, net, []int{})
		checkNoOrder(t, net, make([]int, 1000))
		for places := 1; places <= mostPlaces+2; places++ {
			if places != len(net) {
				checkNoOrder(t, net, ownOrder(places))
				checkNoOrder(t, net, turnedOf(ownOrder(places), places-1))
				checkNoOrder(t, net, make([]int, places))
			}
		}
	})
}

// Promises 19 to 22, 59 and 60: what is no net has no orders, not even one with as many numbers.
func TestNoNetHasOrders(t *testing.T) {
	for _, net := range badNets() {
		checkNoOrder(t, net, nil)
		checkNoOrder(t, net, []int{})
		checkNoOrder(t, net, make([]int, len(net)))
		checkNoOrder(t, net, ownOrder(len(net)))
		for places := 1; places <= mostPlaces+2; places++ {
			checkNoOrder(t, net, ownOrder(places))
			checkNoOrder(t, net, turnedOf(ownOrder(places), places-1))
		}
		if narrow := impl.NarrowRow(net); len(narrow) != 0 {
			t.Errorf("NarrowRow(%v) is %v", net, narrow)
		}
		if first := impl.NarrowFirst(net); len(first) != 0 {
			t.Errorf("NarrowFirst(%v) is %v", net, first)
		}
	}
}
