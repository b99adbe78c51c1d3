package tests

import (
	"sort"
	"testing"

	"loop.example/labelnets/impl"
)

// someOrders returns orders in which the places of a net are called anew.
func someOrders(places int) [][]int {
	var up, down, across []int
	for place := 0; place < places; place++ {
		up = append(up, (place+1)%places)
		down = append(down, places-1-place)
		across = append(across, place)
	}
	across[0], across[places/2] = across[places/2], across[0]
	return [][]int{up, down, across}
}

// checkGraceful tells if GracefulOk does not say the same as isGraceful.
func checkGraceful(t *testing.T, net []int, table pairTable, row []int) {
	t.Helper()
	if want := isGraceful(table.wires(), row); impl.GracefulOk(net, row) != want {
		t.Errorf("GracefulOk(%v, %v) is %v", net, row, !want)
	}
}

// Promise 4.
func TestGracefulRowTurnedIsGraceful(t *testing.T) {
	eachKindOfNet(t, func(net []int, table pairTable) {
		wires := impl.WiresOf(net)
		for _, row := range impl.GracefulRows(net) {
			if !impl.GracefulOk(net, row) {
				t.Errorf("GracefulOk is false of %v", row)
			}
			if turned := impl.TurnedRow(net, row, wires); !impl.GracefulOk(net, turned) {
				t.Errorf("%v turned is %v, which is not graceful", row, turned)
			}
			counts := make([]int, mostLabel+1)
			for _, difference := range impl.Differences(net, row) {
				counts[difference]++
			}
			for difference := range counts {
				if once := difference >= 1 && difference <= wires; once != (counts[difference] == 1) || !once && counts[difference] != 0 {
					t.Errorf("the difference %d comes %d times in %v", difference, counts[difference], row)
				}
			}
			if wires > 0 && !numbersAreNeighbours(table, row, 0, wires) {
				t.Errorf("0 and %d are no neighbours in %v", wires, row)
			}
		}
	})
}

// numbersAreNeighbours reports whether two numbers are at the ends of one wire.
func numbersAreNeighbours(table pairTable, row []int, a int, b int) bool {
	for _, wire := range table.wires() {
		if min(row[wire[0]], row[wire[1]]) == a && max(row[wire[0]], row[wire[1]]) == b {
			return true
		}
	}
	return false
}

// Promise 4: of all rows of numbers around the right ones just those are graceful that the document names.
func TestGracefulOkOfAllNumbers(t *testing.T) {
	eachSmallNet(t, func(net []int) {
		table := tableOfNet(net)
		eachRow(len(net), -1, len(table.wires())+2, func(row []int) {
			checkGraceful(t, net, table, row)
		})
	})
}

// tableOfNet returns the table of a net.
func tableOfNet(net []int) pairTable {
	table := pairsOf(len(net), 0)
	for place := range net {
		for other := range net {
			table[place][other] = inSet(net[place], other)
		}
	}
	return table
}

// Promise 4: graceful rows with one number changed, or with two numbers changed for each other, and rows of all kinds.
func TestGracefulOkOfChangedRows(t *testing.T) {
	eachKindOfNet(t, func(net []int, table pairTable) {
		for _, row := range rowsOf(len(net)) {
			checkGraceful(t, net, table, row)
		}
		rows := impl.GracefulRows(net)
		for at := 0; at < len(rows); at += 1 + len(rows)/4 {
			for place := range net {
				for number := -1; number <= len(table.wires())+1; number++ {
					changed := append([]int{}, rows[at]...)
					changed[place] = number
					checkGraceful(t, net, table, changed)
				}
				for other := range net {
					changed := append([]int{}, rows[at]...)
					changed[place], changed[other] = changed[other], changed[place]
					checkGraceful(t, net, table, changed)
				}
			}
		}
	})
}

// Promise 4, told by numbers.
func TestGracefulOkByNumbers(t *testing.T) {
	path := []int{2, 5, 10, 4}
	cases := []struct {
		net  []int
		row  []int
		want bool
	}{
		{[]int{0}, []int{0}, true},
		{[]int{0}, []int{1}, false},
		{[]int{0, 0}, []int{0, 0}, false},
		{[]int{0, 0}, []int{0, 1}, false},
		{[]int{2, 1}, []int{0, 1}, true},
		{[]int{2, 1}, []int{1, 0}, true},
		{[]int{2, 1}, []int{0, 0}, false},
		{[]int{2, 1}, []int{1, 2}, false},
		{[]int{2, 1, 0}, []int{0, 1, 0}, false},
		{[]int{2, 1, 0}, []int{0, 1, 2}, false},
		{path, []int{0, 3, 1, 2}, true},
		{path, []int{3, 0, 2, 1}, true},
		{path, []int{1, 2, 0, 3}, true},
		{path, []int{2, 1, 3, 0}, true},
		{path, []int{0, 1, 2, 3}, false},
		{path, []int{0, 3, 2, 1}, false},
		// A number that is more than the wires: with differences 3, 2 and 1, and with others.
		{path, []int{1, 4, 2, 3}, false},
		{path, []int{0, 4, 1, 2}, false},
		{path, []int{0, 4, 2, 1}, false},
		{path, []int{0, 3, 1, 30}, false},
		// A number twice, with the differences 3, 2 and 1, and with others.
		{path, []int{0, 3, 1, 0}, false},
		{path, []int{3, 0, 2, 3}, false},
		{path, []int{0, 0, 0, 0}, false},
		{path, []int{0, 3, 3, 1}, false},
		// A difference twice, at one place and at two ones.
		{[]int{2, 5, 2}, []int{0, 1, 2}, false},
		{[]int{2, 5, 2}, []int{0, 2, 1}, true},
		{[]int{14, 1, 1, 1}, []int{0, 3, 1, 2}, true},
		{[]int{14, 1, 1, 1}, []int{1, 0, 2, 3}, false},
		{[]int{2, 1, 8, 4}, []int{0, 2, 1, 3}, false},
		{[]int{6, 5, 3}, []int{0, 1, 3}, true},
		{[]int{6, 5, 3}, []int{3, 0, 2}, true},
		{[]int{6, 5, 3}, []int{0, 1, 2}, false},
		{[]int{10, 5, 10, 5}, []int{0, 4, 1, 2}, true},
		{[]int{10, 5, 10, 5}, []int{0, 4, 2, 1}, false},
		{[]int{14, 13, 11, 7}, []int{0, 1, 4, 6}, true},
		{[]int{14, 13, 11, 7}, []int{6, 0, 5, 2}, true},
		{[]int{14, 13, 11, 7}, []int{0, 1, 3, 6}, false},
		{[]int{2, 5, 10, 20, 40, 16}, []int{0, 5, 1, 4, 2, 3}, true},
		{[]int{2, 5, 10, 20, 40, 16}, []int{0, 5, 1, 4, 3, 2}, false},
		{[]int{62, 61, 3, 3, 3, 3}, []int{0, 1, 3, 5, 7, 9}, true},
		{[]int{62, 61, 3, 3, 3, 3}, []int{0, 1, 3, 5, 7, 10}, false},
	}
	for _, c := range cases {
		if impl.GracefulOk(c.net, c.row) != c.want {
			t.Errorf("GracefulOk(%v, %v) is %v", c.net, c.row, !c.want)
		}
	}
}

// Promise 5.
func TestEvenNetsOfTheWrongSizeHaveNone(t *testing.T) {
	eachKindOfNet(t, func(net []int, table pairTable) {
		many := impl.GracefulMany(net)
		wires := impl.WiresOf(net)
		if many < 0 || wires > 0 && many%2 != 0 {
			t.Errorf("GracefulMany is %d of %d wires", many, wires)
		}
		if many != 0 && impl.EvenOk(net) && (wires%4 == 1 || wires%4 == 2) {
			t.Errorf("GracefulMany is %d of an even net of %d wires", many, wires)
		}
		if many != 0 && len(net) > wires+1 {
			t.Errorf("GracefulMany is %d of %d places and %d wires", many, len(net), wires)
		}
		if rows := impl.GracefulRows(net); many != len(rows) {
			t.Errorf("GracefulMany is %d of %d rows", many, len(rows))
		}
	})
}

// Promises 5, 6 and 46: lone places, nets with fewer wires than places need, paths, rings, stars, two parts, and all pairs of places.
func TestGracefulRowsByNumbers(t *testing.T) {
	cases := []struct {
		net   []int
		many  int
		first []int
	}{
		{[]int{0}, 1, []int{0}},
		{[]int{0, 0}, 0, nil},
		{[]int{0, 0, 0, 0, 0, 0}, 0, nil},
		{[]int{2, 1, 0}, 0, nil},
		{[]int{2, 1, 8, 4}, 0, nil},
		{[]int{32, 16, 8, 4, 2, 1}, 0, nil},
		{[]int{2, 1}, 2, []int{0, 1}},
		{[]int{2, 5, 2}, 4, []int{0, 2, 1}},
		{[]int{2, 5, 10, 4}, 4, []int{0, 3, 1, 2}},
		{[]int{2, 5, 10, 20, 8}, 8, []int{0, 4, 1, 3, 2}},
		{[]int{2, 5, 10, 20, 40, 16}, 24, []int{0, 5, 1, 4, 2, 3}},
		{[]int{6, 5, 3}, 12, []int{0, 1, 3}},
		{[]int{10, 5, 10, 5}, 16, []int{0, 2, 1, 4}},
		{[]int{18, 5, 10, 20, 9}, 0, nil},
		{[]int{34, 5, 10, 20, 40, 17}, 0, nil},
		{[]int{6, 1, 1}, 4, []int{0, 1, 2}},
		{[]int{14, 1, 1, 1}, 12, []int{0, 1, 2, 3}},
		{[]int{30, 1, 1, 1, 1}, 48, []int{0, 1, 2, 3, 4}},
		{[]int{62, 1, 1, 1, 1, 1}, 240, []int{0, 1, 2, 3, 4, 5}},
		// A ring of three places and a lone place, which is the last one, and the first one.
		{[]int{6, 5, 3, 0}, 12, []int{0, 1, 3, 2}},
		{[]int{0, 12, 10, 6}, 12, []int{1, 0, 2, 3}},
		{[]int{14, 13, 11, 7}, 48, []int{0, 1, 4, 6}},
		{[]int{30, 29, 27, 23, 15}, 0, nil},
		{[]int{62, 61, 59, 55, 47, 31}, 0, nil},
		{[]int{62, 61, 3, 3, 3, 3}, 1152, []int{0, 1, 3, 5, 7, 9}},
	}
	for _, c := range cases {
		if many := impl.GracefulMany(c.net); many != c.many {
			t.Errorf("GracefulMany(%v) is %d, not %d", c.net, many, c.many)
		}
		first, ok := impl.GracefulFirst(c.net)
		if ok != (c.many > 0) || !sameList(first, c.first) {
			t.Errorf("GracefulFirst(%v) is %v and %v, not %v", c.net, first, ok, c.first)
		}
		rows := impl.GracefulRows(c.net)
		if len(rows) != c.many {
			t.Errorf("GracefulRows(%v) are %d, not %d", c.net, len(rows), c.many)
		}
		if len(rows) == 0 {
			continue
		}
		// Turned, rows come in the other order: so the last one is the first one turned.
		last := turnedOf(c.first, len(tableOfNet(c.net).wires()))
		if !sameList(rows[0], c.first) || !sameList(rows[len(rows)-1], last) {
			t.Errorf("GracefulRows(%v) are from %v to %v", c.net, rows[0], rows[len(rows)-1])
		}
	}
}

// Promise 46, told by numbers: the whole list.
func TestGracefulRowsOfSmallShapes(t *testing.T) {
	cases := []struct {
		net  []int
		rows [][]int
	}{
		{impl.ShapeNet(0, 1), [][]int{{0}}},
		{impl.ShapeNet(0, 2), [][]int{{0, 1}, {1, 0}}},
		{impl.ShapeNet(0, 3), [][]int{{0, 2, 1}, {1, 0, 2}, {1, 2, 0}, {2, 0, 1}}},
		{impl.ShapeNet(0, 4), [][]int{{0, 3, 1, 2}, {1, 2, 0, 3}, {2, 1, 3, 0}, {3, 0, 2, 1}}},
		{impl.ShapeNet(1, 3), [][]int{
			{0, 1, 3}, {0, 2, 3}, {0, 3, 1}, {0, 3, 2}, {1, 0, 3}, {1, 3, 0},
			{2, 0, 3}, {2, 3, 0}, {3, 0, 1}, {3, 0, 2}, {3, 1, 0}, {3, 2, 0},
		}},
		{[]int{0, 0}, nil},
		{[]int{2, 1, 0}, nil},
		{impl.ShapeNet(1, 5), nil},
	}
	for _, c := range cases {
		if rows := impl.GracefulRows(c.net); !sameLists(rows, c.rows, 0) {
			t.Errorf("GracefulRows(%v) are %v, not %v", c.net, rows, c.rows)
		}
	}
}

// Promises 5, 6 and 46: just the rows that one finds by trying all of them, in the same order.
func TestGracefulRowsAreThoseFoundByTrying(t *testing.T) {
	eachKindOfNet(t, func(net []int, table pairTable) {
		want := gracefulRowsOf(table)
		if rows := impl.GracefulRows(net); !sameLists(rows, want, 0) {
			t.Errorf("GracefulRows are %v, not %v", rows, want)
		}
		if many := impl.GracefulMany(net); many != len(want) {
			t.Errorf("GracefulMany is %d, not %d", many, len(want))
		}
		first, ok := impl.GracefulFirst(net)
		if ok != (len(want) > 0) || ok && !sameList(first, want[0]) || !ok && len(first) != 0 {
			t.Errorf("GracefulFirst is %v and %v of %d rows", first, ok, len(want))
		}
	})
}

// Promises 5, 6 and 46: with its places renamed a net has the same rows renamed.
func TestGracefulRowsOfRenamedNets(t *testing.T) {
	for _, table := range kindsOf(mostPlaces) {
		rows := impl.GracefulRows(table.net())
		for _, order := range someOrders(mostPlaces) {
			net := table.renamed(order).net()
			var want [][]int
			for _, row := range rows {
				want = append(want, renamedRow(row, order))
			}
			sort.Slice(want, func(a, b int) bool { return comesAhead(want[a], want[b]) })
			if got := impl.GracefulRows(net); !sameLists(got, want, 0) {
				t.Errorf("GracefulRows(%v) are %v, not %v", net, got, want)
			}
			if many := impl.GracefulMany(net); many != len(want) {
				t.Errorf("GracefulMany(%v) is %d, not %d", net, many, len(want))
			}
			if first, ok := impl.GracefulFirst(net); ok && !sameList(first, want[0]) || ok != (len(want) > 0) {
				t.Errorf("GracefulFirst(%v) is %v and %v of %d rows", net, first, ok, len(want))
			}
		}
	}
}

// Promise 6.
func TestFirstOneBeginsLow(t *testing.T) {
	eachKindOfNet(t, func(net []int, table pairTable) {
		row, ok := impl.GracefulFirst(net)
		if ok != (impl.GracefulMany(net) > 0) {
			t.Errorf("GracefulFirst is %v of %d rows", ok, impl.GracefulMany(net))
		}
		if !ok {
			if len(row) != 0 {
				t.Errorf("GracefulFirst is %v and false", row)
			}
			return
		}
		if !impl.GracefulOk(net, row) {
			t.Errorf("GracefulFirst is %v, which is not graceful", row)
		}
		if rows := impl.GracefulRows(net); !sameList(row, rows[0]) {
			t.Errorf("GracefulFirst is %v, not %v", row, rows[0])
		}
	})
}

// Promise 6: each tree, with all names that its places can have.
func TestEachTreeHasAGracefulRow(t *testing.T) {
	trees := 0
	eachNet(t, func(net []int, table pairTable) {
		if !impl.TreeOk(net) {
			return
		}
		trees++
		row, ok := impl.GracefulFirst(net)
		if !ok || !isGraceful(table.wires(), row) {
			t.Errorf("GracefulFirst of a tree is %v and %v", row, ok)
		}
		if impl.GracefulMany(net) < 1 {
			t.Errorf("GracefulMany of a tree is %d", impl.GracefulMany(net))
		}
	})
	if trees != 1+1+3+16+125+1296 {
		t.Errorf("%d trees", trees)
	}
}

// Promise 46.
func TestAllGracefulRowsAreTold(t *testing.T) {
	eachKindOfNet(t, func(net []int, table pairTable) {
		rows := impl.GracefulRows(net)
		if !ascends(rows) {
			t.Errorf("GracefulRows do not ascend: %v", rows)
		}
		for at, row := range rows {
			if !impl.GracefulOk(net, row) {
				t.Errorf("%v is not graceful", row)
			}
			turned := impl.TurnedRow(net, row, impl.WiresOf(net))
			if !sameList(turned, rows[len(rows)-1-at]) {
				t.Errorf("%v turned is not as far from the end as it is from the beginning", row)
			}
		}
	})
}

// Promise 47.
func TestRingsAreEven(t *testing.T) {
	for places := 3; places <= mostPlaces; places++ {
		if !impl.EvenOk(impl.ShapeNet(1, places)) {
			t.Errorf("EvenOk is false of a ring of %d places", places)
		}
	}
	eachNet(t, func(net []int, table pairTable) {
		even := impl.EvenOk(net)
		if even != table.isEven() {
			t.Errorf("EvenOk is %v", even)
		}
		if even && impl.TreeOk(net) && impl.WiresOf(net) > 0 {
			t.Error("EvenOk is true of a tree with wires")
		}
	})
}

// Promise 47, told by numbers: no wires, one odd place at each end, and all pairs of places.
func TestEvenOkByNumbers(t *testing.T) {
	cases := []struct {
		net  []int
		want bool
	}{
		{[]int{0}, true},
		{[]int{0, 0}, true},
		{[]int{0, 0, 0, 0, 0, 0}, true},
		{[]int{2, 1}, false},
		{[]int{2, 5, 2}, false},
		{[]int{6, 5, 3}, true},
		{[]int{6, 5, 3, 0}, true},
		{[]int{0, 12, 10, 6}, true},
		{[]int{10, 5, 10, 5}, true},
		{[]int{18, 5, 10, 20, 9}, true},
		{[]int{34, 5, 10, 20, 40, 17}, true},
		{[]int{6, 5, 3, 16, 8}, false},
		{[]int{2, 1, 24, 20, 12}, false},
		{[]int{2, 5, 10, 4}, false},
		{[]int{14, 1, 1, 1}, false},
		{[]int{30, 1, 1, 1, 1}, false},
		{[]int{30, 5, 3, 17, 9}, true},
		{[]int{14, 13, 11, 7}, false},
		{[]int{30, 29, 27, 23, 15}, true},
		{[]int{62, 61, 59, 55, 47, 31}, false},
	}
	for _, c := range cases {
		if impl.EvenOk(c.net) != c.want {
			t.Errorf("EvenOk(%v) is %v", c.net, !c.want)
		}
	}
}

// Promises 4, 5, 6, 46 and 47: what is no net has no graceful rows, not even of as many numbers, and no even places.
func TestNoNetIsGraceful(t *testing.T) {
	for _, net := range badNets() {
		if rows := impl.GracefulRows(net); len(rows) != 0 {
			t.Errorf("GracefulRows(%v) are %v", net, rows)
		}
		if many := impl.GracefulMany(net); many != -1 {
			t.Errorf("GracefulMany(%v) is %d", net, many)
		}
		if row, ok := impl.GracefulFirst(net); ok || len(row) != 0 {
			t.Errorf("GracefulFirst(%v) is %v and %v", net, row, ok)
		}
		if impl.EvenOk(net) {
			t.Errorf("EvenOk(%v)", net)
		}
		rows := [][]int{nil, {}, {0}, {1}, {0, 1}, {1, 0}, {0, 2, 1}, {0, 1, 3}, {0, 3, 1, 2}, make([]int, len(net))}
		for _, row := range rows {
			if impl.GracefulOk(net, row) {
				t.Errorf("GracefulOk(%v, %v)", net, row)
			}
		}
	}
}

// Promise 4: rows of more or fewer numbers than places, and the empty row.
func TestGracefulOkOfAnotherLength(t *testing.T) {
	eachSmallNet(t, func(net []int) {
		rows := [][]int{nil, {}, make([]int, 1000)}
		for _, row := range impl.GracefulRows(net) {
			rows = append(rows, row[:len(row)-1], row[1:])
			for number := -1; number <= mostPlaces+1; number++ {
				rows = append(rows, append([]int{number}, row...), append(append([]int{}, row...), number))
			}
		}
		for _, row := range rows {
			if impl.GracefulOk(net, row) {
				t.Errorf("GracefulOk(%v, %v)", net, row)
			}
		}
	})
}

// Promise 4: a graceful row with one number that is below 0, or above MostLabel.
func TestGracefulOkOfNumbersOutOfRange(t *testing.T) {
	most := int(^uint(0) >> 1)
	for _, number := range []int{-most - 1, -64, -mostLabel, -3, -2, -1, mostLabel + 1, mostLabel + 2, 63, 64, 65, 1 << 40, most} {
		eachSmallNet(t, func(net []int) {
			rows := append(rowsOf(len(net)), impl.GracefulRows(net)...)
			for _, row := range rows {
				for place := range row {
					changed := append([]int{}, row...)
					changed[place] = number
					if impl.GracefulOk(net, changed) {
						t.Errorf("GracefulOk(%v, %v)", net, changed)
					}
				}
			}
		})
	}
}

// The tests go through nets of these many kinds, and through trees of six: else they would miss some.
func TestKindsOfNets(t *testing.T) {
	want := []int{1, 2, 4, 11, 34, 156}
	for at := range want {
		if kinds := len(kindsOf(at + 1)); kinds != want[at] {
			t.Errorf("%d kinds of nets of %d places", kinds, at+1)
		}
	}
	trees := 0
	for _, table := range kindsOf(mostPlaces) {
		if table.parts() == 1 && len(table.wires()) == mostPlaces-1 {
			trees++
		}
	}
	if trees != 6 {
		t.Errorf("%d kinds of trees", trees)
	}
}
