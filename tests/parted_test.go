package tests

import (
	"sort"
	"testing"

	"loop.example/labelnets/impl"
)

// eachGracefulRow calls check with every net of less than mostPlaces places, and one of each kind of mostPlaces places, its table, and each of its graceful rows.
func eachGracefulRow(t *testing.T, check func(net []int, table pairTable, row []int)) {
	t.Helper()
	eachKindOfNet(t, func(net []int, table pairTable) {
		for _, row := range impl.GracefulRows(net) {
			check(net, table, row)
			if t.Failed() {
				t.Fatalf("at the row %v", row)
			}
		}
	})
}

// eachPartedRow calls check with those rows of eachGracefulRow that are parted, and the least number that parts them.
func eachPartedRow(t *testing.T, check func(net []int, table pairTable, row []int, parted int)) {
	t.Helper()
	eachGracefulRow(t, func(net []int, table pairTable, row []int) {
		if parted := partedOf(table, row); parted >= 0 {
			check(net, table, row, parted)
		}
	})
}

// checkParted tells if the functions that take a row do not answer it as the document names it, whatever row it is.
func checkParted(t *testing.T, net []int, table pairTable, row []int) {
	t.Helper()
	want := partedOf(table, row)
	if got := impl.PartedAt(net, row); got != want {
		t.Errorf("PartedAt(%v, %v) is %d, not %d", net, row, got, want)
	}
	if want < 0 {
		checkUnparted(t, net, row)
		return
	}
	wires := len(table.wires())
	if got := impl.TurnedSides(net, row); !sameList(got, sidesTurnedOf(row, wires, want)) {
		t.Errorf("TurnedSides(%v, %v) is %v, not %v", net, row, got, sidesTurnedOf(row, wires, want))
	}
	if got := impl.RaisedRow(net, row, 0); !sameList(got, row) {
		t.Errorf("RaisedRow(%v, %v, 0) is %v", net, row, got)
	}
}

// checkUnparted tells where what is no parted row has not the fixed results.
func checkUnparted(t *testing.T, net []int, row []int) {
	t.Helper()
	if got := impl.PartedAt(net, row); got != -1 {
		t.Errorf("PartedAt(%v, %v) is %d", net, row, got)
	}
	if got := impl.TurnedSides(net, row); len(got) != 0 {
		t.Errorf("TurnedSides(%v, %v) is %v", net, row, got)
	}
	for _, by := range []int{-1, 0, 1, mostLabel, mostLabel + 1} {
		if got := impl.RaisedRow(net, row, by); len(got) != 0 {
			t.Errorf("RaisedRow(%v, %v, %d) is %v", net, row, by, got)
		}
	}
}

// Promise 9.
func TestPartedNetsHaveTwoSides(t *testing.T) {
	eachGracefulRow(t, func(net []int, table pairTable, row []int) {
		parted := impl.PartedAt(net, row)
		if want := partedOf(table, row); parted != want {
			t.Errorf("PartedAt is %d, not %d", parted, want)
		}
		if parted == -1 {
			return
		}
		if impl.SidesOf(net) == -1 || table.sides() == -1 {
			t.Errorf("a net without two sides is parted by %d", parted)
		}
		for _, wire := range impl.WireList(net) {
			if (row[wire[0]] > parted) == (row[wire[1]] > parted) {
				t.Errorf("both ends of the wire %v are on one side of %d", wire, parted)
			}
		}
		if wires := impl.WiresOf(net); parted < 0 || wires > 0 && parted >= wires {
			t.Errorf("PartedAt is %d of %d wires", parted, wires)
		}
	})
}

// Promise 9: the low side of the row of a caterpillar is the first one of its columns.
func TestRowsOfCaterpillarsAreParted(t *testing.T) {
	eachTree(t, func(net []int, table pairTable) {
		row := impl.CaterpillarRow(net)
		first, _ := impl.TwoColumns(net)
		if parted := impl.PartedAt(net, row); parted != len(first)-1 || parted != partedOf(table, row) {
			t.Errorf("PartedAt of %v is %d beside the column %v", row, parted, first)
		}
		checkParted(t, net, table, row)
	})
}

// Promises 9, 10 and 11: of all rows of numbers around the right ones just those are parted that the document names.
func TestPartedAtOfAllNumbers(t *testing.T) {
	eachSmallNet(t, func(net []int) {
		table := tableOfNet(net)
		eachRow(len(net), -1, len(table.wires())+2, func(row []int) {
			checkParted(t, net, table, row)
		})
	})
}

// Promises 9, 10 and 11: rows of all kinds, and graceful rows with one number changed, or with two numbers changed for each other.
func TestPartedAtOfChangedRows(t *testing.T) {
	eachKindOfNet(t, func(net []int, table pairTable) {
		for _, row := range rowsOf(len(net)) {
			checkParted(t, net, table, row)
		}
		rows := impl.GracefulRows(net)
		for at := 0; at < len(rows); at += 1 + len(rows)/4 {
			for place := range net {
				for number := -1; number <= len(table.wires())+1; number++ {
					changed := append([]int{}, rows[at]...)
					changed[place] = number
					checkParted(t, net, table, changed)
				}
				for other := range net {
					changed := append([]int{}, rows[at]...)
					changed[place], changed[other] = changed[other], changed[place]
					checkParted(t, net, table, changed)
				}
			}
		}
	})
}

// Promise 9, told by numbers.
func TestPartedAtByNumbers(t *testing.T) {
	path := []int{2, 5, 10, 4}
	longer := []int{2, 5, 10, 20, 8}
	ring := []int{10, 5, 10, 5}
	cases := []struct {
		net    []int
		row    []int
		parted int
	}{
		// One place, and places without wires: just one place alone has a graceful row.
		{[]int{0}, []int{0}, 0},
		{[]int{0}, []int{1}, -1},
		{[]int{0}, []int{30}, -1},
		{[]int{0, 0}, []int{0, 0}, -1},
		{[]int{0, 0}, []int{0, 1}, -1},
		{[]int{0, 0, 0, 0, 0, 0}, []int{0, 0, 0, 0, 0, 0}, -1},
		{[]int{0, 0, 0, 0, 0, 0}, []int{0, 1, 2, 3, 4, 5}, -1},
		// One wire, alone and beside a place without a neighbour.
		{[]int{2, 1}, []int{0, 1}, 0},
		{[]int{2, 1}, []int{1, 0}, 0},
		{[]int{2, 1}, []int{0, 2}, -1},
		{[]int{2, 1, 0}, []int{0, 1, 2}, -1},
		// Paths.
		{[]int{2, 5, 2}, []int{0, 2, 1}, 1},
		{[]int{2, 5, 2}, []int{1, 2, 0}, 1},
		{[]int{2, 5, 2}, []int{1, 0, 2}, 0},
		{[]int{2, 5, 2}, []int{0, 1, 2}, -1},
		{path, []int{0, 3, 1, 2}, 1},
		{path, []int{1, 2, 0, 3}, 1},
		{path, []int{0, 1, 2, 3}, -1},
		{longer, []int{0, 4, 1, 3, 2}, 2},
		{longer, []int{4, 0, 3, 1, 2}, 1},
		{[]int{2, 5, 10, 20, 40, 16}, []int{0, 5, 1, 4, 2, 3}, 2},
		{[]int{2, 5, 10, 20, 40, 16}, []int{1, 3, 2, 5, 0, 4}, 2},
		// Graceful rows of paths in which one number is the low end of a wire, and the high end of another one: 2 of five places, 3 of six.
		{longer, []int{1, 4, 0, 2, 3}, -1},
		{longer, []int{1, 2, 4, 0, 3}, -1},
		{longer, []int{3, 0, 4, 2, 1}, -1},
		{[]int{2, 5, 10, 20, 40, 16}, []int{1, 4, 0, 5, 3, 2}, -1},
		{[]int{2, 5, 10, 20, 40, 16}, []int{1, 3, 4, 0, 5, 2}, -1},
		{[]int{2, 5, 10, 20, 40, 16}, []int{1, 5, 0, 3, 4, 2}, -1},
		// A tree with arms of two, two and one place: 1 is the low end of a wire, and the high end of another one.
		{[]int{14, 17, 33, 1, 2, 4}, []int{1, 3, 5, 4, 2, 0}, 2},
		{[]int{14, 17, 33, 1, 2, 4}, []int{0, 1, 5, 4, 3, 2}, -1},
		// Stars: by 0, if the midst has 0, and by one less than the wires, if it has as much as these.
		{[]int{14, 1, 1, 1}, []int{0, 3, 1, 2}, 0},
		{[]int{14, 1, 1, 1}, []int{3, 2, 0, 1}, 2},
		{[]int{62, 1, 1, 1, 1, 1}, []int{0, 5, 3, 1, 4, 2}, 0},
		{[]int{62, 1, 1, 1, 1, 1}, []int{5, 0, 1, 2, 3, 4}, 4},
		// Rings of four places, also with a leg, and with a place without a neighbour, whose number is of either side.
		{ring, []int{0, 2, 1, 4}, 1},
		{ring, []int{0, 3, 2, 4}, 2},
		{ring, []int{4, 2, 3, 0}, 2},
		{[]int{10, 5, 10, 5, 0}, []int{0, 2, 1, 4, 3}, 1},
		{[]int{10, 5, 10, 5, 0}, []int{0, 3, 2, 4, 1}, 2},
		{[]int{0, 20, 10, 20, 10}, []int{1, 0, 3, 2, 4}, 2},
		{[]int{10, 5, 26, 5, 4}, []int{0, 2, 1, 5, 4}, 1},
		{[]int{10, 5, 26, 5, 4}, []int{0, 4, 2, 5, 1}, -1},
		// Graceful rows of nets without two sides.
		{[]int{6, 5, 3}, []int{0, 1, 3}, -1},
		{[]int{6, 5, 3}, []int{3, 0, 2}, -1},
		{[]int{6, 5, 3, 0}, []int{0, 1, 3, 2}, -1},
		{[]int{6, 5, 11, 4}, []int{0, 1, 4, 2}, -1},
		{[]int{14, 13, 11, 7}, []int{0, 1, 4, 6}, -1},
		{[]int{62, 61, 3, 3, 3, 3}, []int{0, 1, 3, 5, 7, 9}, -1},
		// Two and three places, each a neighbour of three or four others: numbers are left out.
		{[]int{28, 28, 3, 3, 3}, []int{0, 1, 2, 4, 6}, 1},
		{[]int{28, 28, 3, 3, 3}, []int{6, 5, 0, 2, 4}, 4},
		{[]int{28, 28, 3, 3, 3, 0}, []int{0, 1, 2, 4, 6, 5}, 1},
		{[]int{56, 56, 56, 7, 7, 7}, []int{0, 1, 2, 3, 6, 9}, 2},
		{[]int{56, 56, 56, 7, 7, 7}, []int{0, 3, 6, 7, 8, 9}, 6},
		{[]int{60, 60, 3, 3, 3, 3}, []int{0, 1, 2, 4, 6, 8}, 1},
		{[]int{60, 60, 3, 3, 3, 3}, []int{0, 3, 1, 6, 7, 8}, -1},
	}
	for _, c := range cases {
		if got := impl.PartedAt(c.net, c.row); got != c.parted {
			t.Errorf("PartedAt(%v, %v) is %d, not %d", c.net, c.row, got, c.parted)
		}
		if c.parted == -1 {
			checkUnparted(t, c.net, c.row)
		}
	}
}

// Promise 10.
func TestTurnedWithinItsSidesItIsGraceful(t *testing.T) {
	eachPartedRow(t, func(net []int, table pairTable, row []int, parted int) {
		turned := impl.TurnedSides(net, row)
		if len(turned) != len(row) {
			t.Fatalf("TurnedSides is %v", turned)
		}
		if !impl.GracefulOk(net, turned) || !isGraceful(table.wires(), turned) {
			t.Errorf("TurnedSides is %v, which is not graceful", turned)
		}
		if got := impl.PartedAt(net, turned); got != parted {
			t.Errorf("TurnedSides is %v, parted by %d, not %d", turned, got, parted)
		}
		if again := impl.TurnedSides(net, turned); !sameList(again, row) {
			t.Errorf("turned again it is %v", again)
		}
		if want := sidesTurnedOf(row, len(table.wires()), parted); !sameList(turned, want) {
			t.Errorf("TurnedSides is %v, not %v", turned, want)
		}
	})
}

// Promise 10, told by numbers.
func TestTurnedSidesByNumbers(t *testing.T) {
	cases := []struct {
		net    []int
		row    []int
		turned []int
	}{
		{[]int{0}, []int{0}, []int{0}},
		{[]int{2, 1}, []int{0, 1}, []int{0, 1}},
		{[]int{2, 1}, []int{1, 0}, []int{1, 0}},
		{[]int{2, 5, 2}, []int{0, 2, 1}, []int{1, 2, 0}},
		{[]int{2, 5, 10, 4}, []int{0, 3, 1, 2}, []int{1, 2, 0, 3}},
		{[]int{2, 5, 10, 20, 8}, []int{0, 4, 1, 3, 2}, []int{2, 3, 1, 4, 0}},
		{[]int{2, 5, 10, 20, 40, 16}, []int{0, 5, 1, 4, 2, 3}, []int{2, 3, 1, 4, 0, 5}},
		{[]int{14, 1, 1, 1}, []int{0, 3, 1, 2}, []int{0, 1, 3, 2}},
		{[]int{14, 1, 1, 1}, []int{3, 2, 0, 1}, []int{3, 0, 2, 1}},
		{[]int{62, 1, 1, 1, 1, 1}, []int{5, 0, 1, 2, 3, 4}, []int{5, 4, 3, 2, 1, 0}},
		{[]int{10, 5, 10, 5}, []int{0, 2, 1, 4}, []int{1, 4, 0, 2}},
		{[]int{10, 5, 10, 5}, []int{0, 3, 2, 4}, []int{2, 4, 0, 3}},
		{[]int{10, 5, 10, 5, 0}, []int{0, 2, 1, 4, 3}, []int{1, 4, 0, 2, 3}},
		{[]int{10, 5, 10, 5, 0}, []int{0, 3, 2, 4, 1}, []int{2, 4, 0, 3, 1}},
		{[]int{28, 28, 3, 3, 3}, []int{0, 1, 2, 4, 6}, []int{1, 0, 6, 4, 2}},
		{[]int{28, 28, 3, 3, 3, 0}, []int{0, 1, 2, 4, 6, 5}, []int{1, 0, 6, 4, 2, 3}},
		{[]int{56, 56, 56, 7, 7, 7}, []int{0, 1, 2, 3, 6, 9}, []int{2, 1, 0, 9, 6, 3}},
		// Graceful, but not parted; and not graceful, but with a low and a high side.
		{[]int{6, 5, 3}, []int{0, 1, 3}, nil},
		{[]int{2, 5, 10, 20, 8}, []int{1, 4, 0, 2, 3}, nil},
		{[]int{2, 5, 10, 4}, []int{0, 2, 1, 3}, nil},
		{[]int{0, 0}, []int{0, 1}, nil},
		{[]int{0}, []int{1}, nil},
	}
	for _, c := range cases {
		if got := impl.TurnedSides(c.net, c.row); !sameList(got, c.turned) {
			t.Errorf("TurnedSides(%v, %v) is %v, not %v", c.net, c.row, got, c.turned)
		}
	}
}

// raisedOf returns a parted row with each number that is more than parted more by a number; nil if one is more than mostLabel then.
func raisedOf(row []int, parted int, by int) []int {
	var list []int
	for _, number := range row {
		if number > parted {
			number += by
		}
		list = append(list, number)
	}
	if greatest(list) > mostLabel {
		return nil
	}
	return list
}

// Promise 11.
func TestRaisedSidesMoveAllDifferences(t *testing.T) {
	eachPartedRow(t, func(net []int, table pairTable, row []int, parted int) {
		differences := impl.Differences(net, row)
		for by := 0; by <= mostLabel; by++ {
			raised := impl.RaisedRow(net, row, by)
			if want := raisedOf(row, parted, by); !sameList(raised, want) {
				t.Errorf("RaisedRow by %d is %v, not %v", by, raised, want)
			}
			if fits := len(differences) == 0 || len(differences)+by <= mostLabel; fits != (len(raised) > 0) {
				t.Errorf("RaisedRow by %d is %v", by, raised)
			}
			if len(raised) == 0 {
				continue
			}
			got := impl.Differences(net, raised)
			if want := movedOf(differences, by); !sameList(got, want) {
				t.Errorf("the differences of %v are %v, not %v", raised, got, want)
			}
			sort.Ints(got)
			for at := range got {
				if got[at] != by+1+at {
					t.Errorf("%v has not the differences from %d on, each once", raised, by+1)
				}
			}
		}
	})
}

// Promise 11: all numbers around 0..MostLabel, and the ends of what an int holds.
func TestRaisedRowByAllNumbers(t *testing.T) {
	nets := [][]int{{0}, {2, 1}, {2, 5, 10, 4}, {14, 1, 1, 1}, {10, 5, 10, 5, 0}, {62, 1, 1, 1, 1, 1}, {56, 56, 56, 7, 7, 7}}
	for _, net := range nets {
		table := tableOfNet(net)
		for _, row := range gracefulRowsOf(table) {
			parted := partedOf(table, row)
			for _, by := range numbersAround() {
				var want []int
				if parted >= 0 && by >= 0 && by <= mostLabel {
					want = raisedOf(row, parted, by)
				}
				if got := impl.RaisedRow(net, row, by); !sameList(got, want) {
					t.Errorf("RaisedRow(%v, %v, %d) is %v, not %v", net, row, by, got, want)
				}
			}
		}
	}
}

// Promise 11, told by numbers.
func TestRaisedRowByNumbers(t *testing.T) {
	path := []int{2, 5, 10, 4}
	star := []int{62, 1, 1, 1, 1, 1}
	cases := []struct {
		net    []int
		row    []int
		by     int
		raised []int
	}{
		// Without wires no number is more than 0, so that none is raised.
		{[]int{0}, []int{0}, 0, []int{0}},
		{[]int{0}, []int{0}, 30, []int{0}},
		{[]int{0}, []int{0}, 31, nil},
		{[]int{0}, []int{0}, -1, nil},
		{[]int{0}, []int{1}, 0, nil},
		{[]int{0, 0}, []int{0, 0}, 0, nil},
		// One number becomes just MostLabel, and one more.
		{[]int{2, 1}, []int{0, 1}, 0, []int{0, 1}},
		{[]int{2, 1}, []int{0, 1}, 29, []int{0, 30}},
		{[]int{2, 1}, []int{1, 0}, 29, []int{30, 0}},
		{[]int{2, 1}, []int{0, 1}, 30, nil},
		{[]int{2, 1}, []int{0, 1}, 31, nil},
		{path, []int{0, 3, 1, 2}, 0, []int{0, 3, 1, 2}},
		{path, []int{0, 3, 1, 2}, 1, []int{0, 4, 1, 3}},
		{path, []int{0, 3, 1, 2}, 5, []int{0, 8, 1, 7}},
		{path, []int{0, 3, 1, 2}, 27, []int{0, 30, 1, 29}},
		{path, []int{0, 3, 1, 2}, 28, nil},
		{path, []int{0, 3, 1, 2}, 30, nil},
		{path, []int{0, 3, 1, 2}, 31, nil},
		{path, []int{0, 3, 1, 2}, -1, nil},
		{path, []int{0, 3, 1, 2}, -30, nil},
		{path, []int{2, 1, 3, 0}, 4, []int{6, 1, 7, 0}},
		// Parted by 0, and by one less than the wires: all numbers but one are raised, and just one.
		{star, []int{0, 5, 3, 1, 4, 2}, 25, []int{0, 30, 28, 26, 29, 27}},
		{star, []int{0, 5, 3, 1, 4, 2}, 26, nil},
		{star, []int{5, 0, 1, 2, 3, 4}, 25, []int{30, 0, 1, 2, 3, 4}},
		{star, []int{5, 0, 1, 2, 3, 4}, 26, nil},
		{star, []int{5, 0, 1, 2, 3, 4}, -5, nil},
		// A place without a neighbour is raised, too, if its number is of the high side.
		{[]int{10, 5, 10, 5, 0}, []int{0, 2, 1, 4, 3}, 26, []int{0, 28, 1, 30, 29}},
		{[]int{10, 5, 10, 5, 0}, []int{0, 3, 2, 4, 1}, 26, []int{0, 29, 2, 30, 1}},
		{[]int{10, 5, 10, 5, 0}, []int{0, 3, 2, 4, 1}, 27, nil},
		{[]int{56, 56, 56, 7, 7, 7}, []int{0, 1, 2, 3, 6, 9}, 21, []int{0, 1, 2, 24, 27, 30}},
		{[]int{56, 56, 56, 7, 7, 7}, []int{0, 1, 2, 3, 6, 9}, 22, nil},
		// Graceful, but not parted; and raised already, and so not graceful.
		{[]int{6, 5, 3}, []int{0, 1, 3}, 0, nil},
		{[]int{2, 5, 10, 20, 8}, []int{1, 4, 0, 2, 3}, 1, nil},
		{path, []int{0, 4, 1, 3}, 1, nil},
	}
	for _, c := range cases {
		if got := impl.RaisedRow(c.net, c.row, c.by); !sameList(got, c.raised) {
			t.Errorf("RaisedRow(%v, %v, %d) is %v, not %v", c.net, c.row, c.by, got, c.raised)
		}
	}
}

// Promise 51.
func TestNetsWithoutSidesHaveNone(t *testing.T) {
	eachKindOfNet(t, func(net []int, table pairTable) {
		many := impl.PartedMany(net)
		if many < 0 || many > impl.GracefulMany(net) {
			t.Errorf("PartedMany is %d of %d graceful rows", many, impl.GracefulMany(net))
		}
		if impl.SidesOf(net) == -1 && many != 0 {
			t.Errorf("PartedMany is %d of a net without two sides", many)
		}
		if impl.WiresOf(net) > 0 && many%2 != 0 {
			t.Errorf("PartedMany is %d of a net with wires", many)
		}
		want := 0
		for _, row := range gracefulRowsOf(table) {
			if partedOf(table, row) >= 0 {
				want++
			}
		}
		if many != want {
			t.Errorf("PartedMany is %d, not %d", many, want)
		}
	})
}

// Promise 51: each caterpillar, with all names that its places can have.
func TestCaterpillarsHavePartedRows(t *testing.T) {
	trees := 0
	eachTree(t, func(net []int, table pairTable) {
		trees++
		if many := impl.PartedMany(net); !impl.CaterpillarOk(net) || many < 1 || len(net) > 1 && many%2 != 0 {
			t.Errorf("PartedMany of a caterpillar is %d", many)
		}
	})
	if trees != 1+1+3+16+125+1296 {
		t.Errorf("%d trees", trees)
	}
}

// Promise 51: with its places renamed a net has as many parted rows.
func TestPartedManyOfRenamedNets(t *testing.T) {
	for _, table := range kindsOf(mostPlaces) {
		want := impl.PartedMany(table.net())
		for _, order := range someOrders(mostPlaces) {
			net := table.renamed(order).net()
			if many := impl.PartedMany(net); many != want {
				t.Errorf("PartedMany(%v) is %d, not %d", net, many, want)
			}
		}
	}
}

// Promise 51, told by numbers.
func TestPartedManyByNumbers(t *testing.T) {
	cases := []struct {
		net  []int
		many int
	}{
		{[]int{0}, 1},
		{[]int{0, 0}, 0},
		{[]int{0, 0, 0}, 0},
		{[]int{0, 0, 0, 0, 0, 0}, 0},
		{[]int{2, 1}, 2},
		{[]int{2, 1, 0}, 0},
		{[]int{2, 1, 8, 4}, 0},
		{[]int{2, 5, 2}, 4},
		{[]int{2, 5, 10, 4}, 4},
		{[]int{2, 5, 10, 20, 8}, 4},
		{[]int{2, 5, 10, 20, 40, 16}, 8},
		{[]int{14, 1, 1, 1}, 12},
		{[]int{30, 1, 1, 1, 1}, 48},
		{[]int{62, 1, 1, 1, 1, 1}, 240},
		{[]int{14, 17, 33, 1, 2, 4}, 4},
		{[]int{6, 5, 3}, 0},
		{[]int{10, 5, 10, 5}, 16},
		{[]int{18, 5, 10, 20, 9}, 0},
		{[]int{34, 5, 10, 20, 40, 17}, 0},
		{[]int{6, 5, 3, 0}, 0},
		{[]int{10, 5, 10, 5, 0}, 16},
		{[]int{0, 20, 10, 20, 10}, 16},
		{[]int{10, 5, 10, 5, 0, 0}, 0},
		{[]int{6, 5, 11, 4}, 0},
		{[]int{10, 5, 26, 5, 4}, 24},
		{[]int{42, 5, 10, 21, 40, 17}, 48},
		{[]int{28, 28, 3, 3, 3}, 48},
		{[]int{28, 28, 3, 3, 3, 0}, 96},
		{[]int{56, 56, 56, 7, 7, 7}, 144},
		{[]int{60, 60, 3, 3, 3, 3}, 288},
		{[]int{14, 13, 11, 7}, 0},
		{[]int{62, 61, 3, 3, 3, 3}, 0},
		{[]int{62, 61, 59, 55, 47, 31}, 0},
	}
	for _, c := range cases {
		if many := impl.PartedMany(c.net); many != c.many {
			t.Errorf("PartedMany(%v) is %d, not %d", c.net, many, c.many)
		}
	}
}

// Promises 9, 10, 11 and 51: paths, rings and stars of all sizes.
func TestPartedRowsOfShapes(t *testing.T) {
	// For each kind of 1..mostPlaces places: how many rows are parted. Rings of one and of two places are none.
	want := [][]int{
		{1, 2, 4, 4, 4, 8},
		{-1, -1, 0, 16, 0, 0},
		{1, 2, 4, 12, 48, 240},
	}
	for kind := range want {
		for at, many := range want[kind] {
			net := impl.ShapeNet(kind, at+1)
			if got := impl.PartedMany(net); got != many {
				t.Errorf("PartedMany of the kind %d of %d places is %d, not %d", kind, at+1, got, many)
			}
			for _, row := range impl.GracefulRows(net) {
				checkParted(t, net, tableOfNet(net), row)
			}
		}
	}
}

// Promises 9, 10, 11 and 51: what is no net has no parted rows, not even of as many numbers.
func TestNoNetIsParted(t *testing.T) {
	for _, net := range badNets() {
		if many := impl.PartedMany(net); many != -1 {
			t.Errorf("PartedMany(%v) is %d", net, many)
		}
		rows := [][]int{nil, {}, {0}, {1}, {0, 1}, {1, 0}, {0, 2, 1}, {0, 1, 3}, {0, 3, 1, 2}, {0, 6, 1, 5, 2, 4, 3}, make([]int, len(net))}
		for _, row := range rows {
			checkUnparted(t, net, row)
		}
	}
}

// Promises 9, 10 and 11: rows of more or fewer numbers than places, and the empty row.
func TestPartedAtOfAnotherLength(t *testing.T) {
	eachSmallNet(t, func(net []int) {
		rows := [][]int{nil, {}, make([]int, 1000)}
		for _, row := range impl.GracefulRows(net) {
			rows = append(rows, row[:len(row)-1], row[1:])
			for number := -1; number <= mostPlaces+1; number++ {
				rows = append(rows, append([]int{number}, row...), append(append([]int{}, row...), number))
			}
		}
		for _, row := range rows {
			checkUnparted(t, net, row)
		}
	})
}

// Promises 9, 10 and 11: a parted row with one number that is below 0, or above MostLabel.
func TestPartedAtOfNumbersOutOfRange(t *testing.T) {
	most := int(^uint(0) >> 1)
	for _, number := range []int{-most - 1, -64, -mostLabel, -3, -2, -1, mostLabel + 1, mostLabel + 2, 63, 64, 65, 1 << 40, most} {
		eachSmallNet(t, func(net []int) {
			for _, row := range append(rowsOf(len(net)), impl.GracefulRows(net)...) {
				for place := range row {
					changed := append([]int{}, row...)
					changed[place] = number
					checkUnparted(t, net, changed)
				}
			}
		})
	}
}

// The tests go through graceful rows of nets with two sides that are not parted, and through nets of which some rows are parted and others are not: else they would not see rows that are taken for parted.
func TestUnpartedRowsAreAmongThose(t *testing.T) {
	parted, unparted, without := 0, 0, 0
	eachGracefulRow(t, func(net []int, table pairTable, row []int) {
		switch {
		case partedOf(table, row) >= 0:
			parted++
		case table.sides() >= 0:
			unparted++
		default:
			without++
		}
	})
	if parted == 0 || unparted == 0 || without == 0 {
		t.Errorf("%d rows are parted, %d are not, and %d are of nets without two sides", parted, unparted, without)
	}
}
