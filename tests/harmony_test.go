package tests

import (
	"testing"

	"loop.example/labelnets/impl"
)

// eachHarmoniousRow calls check with every net of less than mostPlaces places, and one of each kind of mostPlaces places, its table, and its harmonious rows: of many ones just some, the first one too.
func eachHarmoniousRow(t *testing.T, check func(net []int, table pairTable, row []int)) {
	t.Helper()
	eachKindOfNet(t, func(net []int, table pairTable) {
		rows := impl.HarmonyRows(net)
		for at := 0; at < len(rows); at += 1 + len(rows)/40 {
			check(net, table, rows[at])
			if t.Failed() {
				t.Fatalf("at the row %v", rows[at])
			}
		}
	})
}

// checkHarmony tells if the functions do not answer a row as the document names it, whatever row it is.
func checkHarmony(t *testing.T, net []int, table pairTable, row []int) {
	t.Helper()
	if !isHarmonious(table.wires(), alikeOf(table), row) {
		checkNoHarmony(t, net, row)
		return
	}
	if !impl.HarmonyOk(net, row) {
		t.Errorf("HarmonyOk(%v, %v) is false", net, row)
	}
	if got := impl.HarmonyMoved(net, row, 1, 0); !sameList(got, row) {
		t.Errorf("HarmonyMoved(%v, %v, 1, 0) is %v", net, row, got)
	}
}

// checkNoHarmony tells where what is no harmonious row has not the fixed results.
func checkNoHarmony(t *testing.T, net []int, row []int) {
	t.Helper()
	if impl.HarmonyOk(net, row) {
		t.Errorf("HarmonyOk(%v, %v)", net, row)
	}
	for _, factor := range []int{0, 1} {
		if got := impl.HarmonyMoved(net, row, factor, factor); len(got) != 0 {
			t.Errorf("HarmonyMoved(%v, %v, %d, %d) is %v", net, row, factor, factor, got)
		}
	}
}

// Promise 14.
func TestRowsComeAsOftenAsTheRingIsLong(t *testing.T) {
	wrongSize := 0
	eachKindOfNet(t, func(net []int, table pairTable) {
		many := impl.HarmonyMany(net)
		wires := impl.WiresOf(net)
		if wires == 0 {
			if many != 0 {
				t.Errorf("HarmonyMany is %d without wires", many)
			}
			return
		}
		if many < 0 || many%wires != 0 {
			t.Errorf("HarmonyMany is %d of %d wires", many, wires)
		}
		if impl.EvenOk(net) && wires%4 == 2 {
			wrongSize++
			if many != 0 {
				t.Errorf("HarmonyMany is %d of an even net of %d wires", many, wires)
			}
		}
		// Moved round the ring, rows that begin with one number are those that begin with another one: so they are as many.
		counts := make([]int, wires)
		for _, row := range impl.HarmonyRows(net) {
			counts[row[0]]++
		}
		for number := range counts {
			if counts[number]*wires != many {
				t.Errorf("%d of %d rows on the ring of %d begin with %d", counts[number], many, wires, number)
			}
		}
	})
	if wrongSize == 0 {
		t.Error("no even net of a wrong size was met")
	}
}

// Promises 14, 54 and 55: lone places, one wire, nets with fewer wires than places, paths, rings, stars, two parts, even nets of the wrong size and of others, and all pairs of places.
func TestHarmonyRowsByNumbers(t *testing.T) {
	cases := []struct {
		net   []int
		many  int
		first []int
		last  []int
	}{
		{[]int{0}, 0, nil, nil},
		{[]int{0, 0}, 0, nil, nil},
		{[]int{0, 0, 0, 0, 0, 0}, 0, nil, nil},
		{[]int{2, 1}, 1, []int{0, 0}, []int{0, 0}},
		{[]int{2, 1, 0}, 0, nil, nil},
		{[]int{0, 4, 2}, 0, nil, nil},
		{[]int{2, 1, 8, 4}, 0, nil, nil},
		{[]int{4, 8, 1, 2}, 0, nil, nil},
		{[]int{2, 1, 8, 4, 0, 0}, 0, nil, nil},
		{[]int{32, 16, 8, 4, 2, 1}, 0, nil, nil},
		// Trees.
		{[]int{2, 5, 2}, 4, []int{0, 0, 1}, []int{1, 1, 0}},
		{[]int{6, 1, 1}, 4, []int{0, 0, 1}, []int{1, 1, 0}},
		{[]int{2, 5, 10, 4}, 12, []int{0, 1, 1, 2}, []int{2, 1, 1, 0}},
		{[]int{2, 5, 10, 20, 8}, 16, []int{0, 1, 3, 0, 2}, []int{3, 2, 0, 3, 1}},
		{[]int{2, 5, 10, 20, 40, 16}, 80, []int{0, 1, 2, 2, 3, 4}, []int{4, 3, 2, 2, 1, 0}},
		{[]int{14, 1, 1, 1}, 18, []int{0, 0, 1, 2}, []int{2, 2, 1, 0}},
		{[]int{30, 1, 1, 1, 1}, 96, []int{0, 0, 1, 2, 3}, []int{3, 3, 2, 1, 0}},
		{[]int{62, 1, 1, 1, 1, 1}, 600, []int{0, 0, 1, 2, 3, 4}, []int{4, 4, 3, 2, 1, 0}},
		// One wire less than places, but more than one part.
		{[]int{6, 5, 3, 0}, 0, nil, nil},
		{[]int{0, 12, 10, 6}, 0, nil, nil},
		{[]int{6, 5, 3, 16, 8}, 0, nil, nil},
		{[]int{10, 5, 10, 5, 0}, 0, nil, nil},
		{[]int{18, 5, 10, 20, 9, 0}, 0, nil, nil},
		{[]int{6, 5, 3, 16, 8, 0}, 0, nil, nil},
		// As many wires as places: rings, and others.
		{[]int{6, 5, 3}, 6, []int{0, 1, 2}, []int{2, 1, 0}},
		{[]int{10, 5, 10, 5}, 0, nil, nil},
		{[]int{18, 5, 10, 20, 9}, 20, []int{0, 1, 2, 3, 4}, []int{4, 3, 2, 1, 0}},
		{[]int{34, 5, 10, 20, 40, 17}, 0, nil, nil},
		{[]int{6, 5, 11, 4}, 8, []int{0, 2, 1, 3}, []int{3, 1, 2, 0}},
		{[]int{6, 5, 3, 48, 40, 24}, 0, nil, nil},
		// More wires than places, in one part and in two.
		{[]int{14, 5, 11, 5}, 40, []int{0, 1, 3, 2}, []int{4, 3, 1, 2}},
		{[]int{6, 13, 11, 6}, 40, []int{0, 1, 2, 3}, []int{4, 3, 2, 1}},
		{[]int{14, 13, 3, 3}, 40, []int{0, 1, 2, 4}, []int{4, 3, 2, 0}},
		{[]int{30, 5, 3, 17, 9}, 0, nil, nil},
		{[]int{56, 56, 56, 7, 7, 7}, 0, nil, nil},
		{[]int{60, 60, 51, 51, 15, 15}, 0, nil, nil},
		{[]int{30, 29, 27, 7, 7}, 648, []int{0, 1, 2, 4, 7}, []int{8, 7, 6, 4, 1}},
		{[]int{62, 5, 11, 21, 41, 17}, 648, []int{0, 1, 2, 7, 6, 8}, []int{8, 7, 6, 1, 2, 0}},
		{[]int{62, 37, 11, 21, 41, 19}, 400, []int{0, 1, 2, 8, 9, 5}, []int{9, 8, 7, 1, 0, 4}},
		{[]int{62, 61, 3, 3, 3, 3}, 1296, []int{0, 1, 2, 4, 6, 8}, []int{8, 7, 6, 4, 2, 0}},
		{[]int{62, 29, 27, 23, 15, 1}, 2640, []int{0, 1, 2, 4, 7, 10}, []int{10, 9, 8, 6, 3, 0}},
		{[]int{14, 13, 11, 7, 32, 16}, 0, nil, nil},
		// Even nets of seven, eight and ten wires: just those of ten are of a wrong size.
		{[]int{30, 29, 3, 3, 3}, 252, []int{0, 1, 2, 4, 6}, []int{6, 5, 4, 2, 0}},
		{[]int{58, 53, 10, 5, 3, 3}, 640, []int{0, 1, 3, 5, 2, 6}, []int{7, 6, 4, 2, 5, 1}},
		{[]int{46, 45, 27, 23, 12, 3}, 0, nil, nil},
		// All pairs of places.
		{[]int{14, 13, 11, 7}, 144, []int{0, 1, 2, 4}, []int{5, 4, 3, 1}},
		{[]int{30, 29, 27, 23, 15}, 0, nil, nil},
		{[]int{30, 29, 27, 23, 15, 0}, 0, nil, nil},
		{[]int{62, 61, 59, 55, 47, 31}, 0, nil, nil},
	}
	for _, c := range cases {
		if many := impl.HarmonyMany(c.net); many != c.many {
			t.Errorf("HarmonyMany(%v) is %d, not %d", c.net, many, c.many)
		}
		rows := impl.HarmonyRows(c.net)
		if len(rows) != c.many {
			t.Errorf("HarmonyRows(%v) are %d, not %d", c.net, len(rows), c.many)
		}
		if len(rows) > 0 && (!sameList(rows[0], c.first) || !sameList(rows[len(rows)-1], c.last)) {
			t.Errorf("HarmonyRows(%v) are from %v to %v, not from %v to %v", c.net, rows[0], rows[len(rows)-1], c.first, c.last)
		}
	}
}

// Promise 55, told by numbers: the whole list.
func TestHarmonyRowsOfSmallShapes(t *testing.T) {
	cases := []struct {
		net  []int
		rows [][]int
	}{
		{[]int{0}, nil},
		{[]int{2, 1}, [][]int{{0, 0}}},
		{[]int{2, 5, 2}, [][]int{{0, 0, 1}, {0, 1, 1}, {1, 0, 0}, {1, 1, 0}}},
		{[]int{2, 5, 10, 4}, [][]int{
			{0, 1, 1, 2}, {0, 1, 2, 0}, {0, 2, 1, 0}, {0, 2, 2, 1},
			{1, 0, 0, 2}, {1, 0, 2, 1}, {1, 2, 0, 1}, {1, 2, 2, 0},
			{2, 0, 0, 1}, {2, 0, 1, 2}, {2, 1, 0, 2}, {2, 1, 1, 0},
		}},
		{[]int{6, 5, 3}, [][]int{{0, 1, 2}, {0, 2, 1}, {1, 0, 2}, {1, 2, 0}, {2, 0, 1}, {2, 1, 0}}},
		{[]int{6, 5, 11, 4}, [][]int{
			{0, 2, 1, 3}, {0, 2, 3, 1}, {1, 3, 0, 2}, {1, 3, 2, 0},
			{2, 0, 1, 3}, {2, 0, 3, 1}, {3, 1, 0, 2}, {3, 1, 2, 0},
		}},
		{[]int{6, 5, 3, 0}, nil},
		{[]int{10, 5, 10, 5}, nil},
	}
	for _, c := range cases {
		if rows := impl.HarmonyRows(c.net); !sameLists(rows, c.rows, 0) {
			t.Errorf("HarmonyRows(%v) are %v, not %v", c.net, rows, c.rows)
		}
	}
}

// Promises 14, 54 and 55: just the rows that one finds by trying all of them, in the same order.
func TestHarmonyRowsAreThoseFoundByTrying(t *testing.T) {
	eachKindOfNet(t, func(net []int, table pairTable) {
		want := harmoniousRowsOf(table)
		if rows := impl.HarmonyRows(net); !sameLists(rows, want, 0) {
			t.Errorf("HarmonyRows are %v, not %v", rows, want)
		}
		if many := impl.HarmonyMany(net); many != len(want) {
			t.Errorf("HarmonyMany is %d, not %d", many, len(want))
		}
	})
}

// Promises 14, 54 and 55: with its places renamed a net has the same rows renamed.
func TestHarmonyRowsOfRenamedNets(t *testing.T) {
	for _, table := range kindsOf(mostPlaces) {
		rows := impl.HarmonyRows(table.net())
		for _, order := range someOrders(mostPlaces) {
			net := table.renamed(order).net()
			var want [][]int
			for _, row := range rows {
				want = append(want, renamedRow(row, order))
			}
			sortRows(want)
			if got := impl.HarmonyRows(net); !sameLists(got, want, 0) {
				t.Errorf("HarmonyRows(%v) are %v, not %v", net, got, want)
			}
			if many := impl.HarmonyMany(net); many != len(want) {
				t.Errorf("HarmonyMany(%v) is %d, not %d", net, many, len(want))
			}
		}
	}
}

// Promise 15.
func TestMovedHarmonyIsHarmony(t *testing.T) {
	eachHarmoniousRow(t, func(net []int, table pairTable, row []int) {
		wires := len(table.wires())
		for factor := 0; factor <= mostLabel; factor++ {
			by := (factor*7 + row[0]) % (mostLabel + 1)
			moved := impl.HarmonyMoved(net, row, factor, by)
			if haveDivisor(wires, factor) {
				if len(moved) != 0 {
					t.Errorf("multiplied by %d on the ring of %d: %v", factor, wires, moved)
				}
				continue
			}
			if want := multipliedOf(row, wires, factor, by); !sameList(moved, want) {
				t.Fatalf("multiplied by %d and moved by %d: %v, not %v", factor, by, moved, want)
			}
			if !impl.HarmonyOk(net, moved) {
				t.Errorf("multiplied by %d and moved by %d: %v, which is not harmonious", factor, by, moved)
			}
			for place := range row {
				for other := range row {
					if (moved[place] == moved[other]) != (row[place] == row[other]) {
						t.Errorf("multiplied by %d and moved by %d: %v at the places %d and %d", factor, by, moved, place, other)
					}
				}
			}
		}
	})
}

// Promise 15: turned back it is the row.
func TestMovedHarmonyMovedBack(t *testing.T) {
	eachHarmoniousRow(t, func(net []int, table pairTable, row []int) {
		wires := len(table.wires())
		for by := 0; by <= mostLabel; by++ {
			moved := impl.HarmonyMoved(net, row, 1, by)
			if want := steppedOf(row, wires, by); !sameList(moved, want) {
				t.Errorf("moved by %d: %v, not %v", by, moved, want)
			}
		}
		// Multiplied by a number, and then by one that brings 1 back from there, each number is as it was.
		for factor := 0; factor < wires; factor++ {
			for back := 0; back < wires; back++ {
				if factor*back%wires != 1%wires {
					continue
				}
				moved := impl.HarmonyMoved(net, row, factor, 0)
				if again := impl.HarmonyMoved(net, moved, back, 0); !sameList(again, row) {
					t.Errorf("multiplied by %d and %d: %v and %v", factor, back, moved, again)
				}
			}
		}
	})
}

// Promise 15: just the factors and numbers in 0..mostLabel move a row, and of the factors just those without a common divisor with the wires.
func TestHarmonyMovedByAllNumbers(t *testing.T) {
	cases := []struct {
		net []int
		row []int
	}{
		{[]int{2, 1}, []int{0, 0}},
		{[]int{2, 5, 2}, []int{0, 0, 1}},
		{[]int{6, 5, 3}, []int{0, 1, 2}},
		{[]int{2, 5, 10, 4}, []int{0, 1, 2, 0}},
		{[]int{6, 5, 11, 4}, []int{0, 2, 1, 3}},
		{[]int{18, 5, 10, 20, 9}, []int{0, 1, 2, 3, 4}},
		{[]int{14, 13, 11, 7}, []int{0, 1, 2, 4}},
		{[]int{62, 61, 3, 3, 3, 3}, []int{0, 1, 2, 4, 6, 8}},
		{[]int{62, 29, 27, 23, 15, 1}, []int{0, 1, 2, 4, 7, 10}},
	}
	for _, c := range cases {
		wires := len(tableOfNet(c.net).wires())
		for _, factor := range numbersAround() {
			for _, by := range numbersAround() {
				var want []int
				right := factor >= 0 && factor <= mostLabel && by >= 0 && by <= mostLabel
				if right && !haveDivisor(wires, factor) {
					want = multipliedOf(c.row, wires, factor, by)
				}
				if got := impl.HarmonyMoved(c.net, c.row, factor, by); !sameList(got, want) {
					t.Errorf("HarmonyMoved(%v, %v, %d, %d) is %v, not %v", c.net, c.row, factor, by, got, want)
				}
			}
		}
	}
}

// Promise 15, told by numbers.
func TestHarmonyMovedByNumbers(t *testing.T) {
	wire := []int{2, 1}
	short := []int{2, 5, 2}
	path := []int{2, 5, 10, 4}
	ring := []int{6, 5, 3}
	paw := []int{6, 5, 11, 4}
	five := []int{18, 5, 10, 20, 9}
	four := []int{14, 13, 11, 7}
	book := []int{62, 61, 3, 3, 3, 3}
	tail := []int{62, 29, 27, 23, 15, 1}
	cases := []struct {
		net    []int
		row    []int
		factor int
		by     int
		moved  []int
	}{
		// The ring of one number: each factor will do, 0 too.
		{wire, []int{0, 0}, 0, 0, []int{0, 0}},
		{wire, []int{0, 0}, 1, 0, []int{0, 0}},
		{wire, []int{0, 0}, 0, 30, []int{0, 0}},
		{wire, []int{0, 0}, 30, 0, []int{0, 0}},
		{wire, []int{0, 0}, 30, 30, []int{0, 0}},
		{wire, []int{0, 0}, 31, 0, nil},
		{wire, []int{0, 0}, 0, 31, nil},
		{wire, []int{0, 0}, -1, 0, nil},
		{wire, []int{0, 0}, 0, -1, nil},
		// Two wires: the factor must be odd.
		{short, []int{0, 0, 1}, 0, 0, nil},
		{short, []int{0, 0, 1}, 1, 0, []int{0, 0, 1}},
		{short, []int{0, 0, 1}, 1, 1, []int{1, 1, 0}},
		{short, []int{0, 0, 1}, 2, 0, nil},
		{short, []int{0, 0, 1}, 3, 30, []int{0, 0, 1}},
		{short, []int{0, 0, 1}, 29, 1, []int{1, 1, 0}},
		{short, []int{0, 0, 1}, 30, 1, nil},
		{short, []int{0, 0, 1}, 1, 31, nil},
		// Three wires: factors and numbers as great as may be, and one more.
		{path, []int{0, 1, 2, 0}, 0, 0, nil},
		{path, []int{0, 1, 2, 0}, 1, 0, []int{0, 1, 2, 0}},
		{path, []int{0, 1, 2, 0}, 1, 1, []int{1, 2, 0, 1}},
		{path, []int{0, 1, 2, 0}, 1, 2, []int{2, 0, 1, 2}},
		{path, []int{0, 1, 2, 0}, 1, 3, []int{0, 1, 2, 0}},
		{path, []int{0, 1, 2, 0}, 1, 30, []int{0, 1, 2, 0}},
		{path, []int{0, 1, 2, 0}, 1, 31, nil},
		{path, []int{0, 1, 2, 0}, 2, 0, []int{0, 2, 1, 0}},
		{path, []int{0, 1, 2, 0}, 2, 1, []int{1, 0, 2, 1}},
		{path, []int{0, 1, 2, 0}, 2, 29, []int{2, 1, 0, 2}},
		{path, []int{0, 1, 2, 0}, 3, 1, nil},
		{path, []int{0, 1, 2, 0}, 4, 0, []int{0, 1, 2, 0}},
		{path, []int{0, 1, 2, 0}, 28, 30, []int{0, 1, 2, 0}},
		{path, []int{0, 1, 2, 0}, 29, 30, []int{0, 2, 1, 0}},
		{path, []int{0, 1, 2, 0}, 30, 0, nil},
		{path, []int{0, 1, 2, 0}, 31, 0, nil},
		{path, []int{0, 1, 2, 0}, -1, 0, nil},
		{path, []int{0, 1, 2, 0}, -2, 1, nil},
		{path, []int{0, 1, 2, 0}, 2, -1, nil},
		// As many wires as places.
		{ring, []int{0, 1, 2}, 0, 1, nil},
		{ring, []int{0, 1, 2}, 1, 0, []int{0, 1, 2}},
		{ring, []int{0, 1, 2}, 1, 2, []int{2, 0, 1}},
		{ring, []int{0, 1, 2}, 2, 1, []int{1, 0, 2}},
		{ring, []int{0, 1, 2}, 3, 1, nil},
		{ring, []int{0, 1, 2}, 4, 1, []int{1, 2, 0}},
		{ring, []int{0, 1, 2}, 6, 0, nil},
		{ring, []int{0, 1, 2}, 29, 29, []int{2, 1, 0}},
		{paw, []int{0, 2, 1, 3}, 1, 1, []int{1, 3, 2, 0}},
		{paw, []int{0, 2, 1, 3}, 2, 0, nil},
		{paw, []int{0, 2, 1, 3}, 3, 0, []int{0, 2, 3, 1}},
		{paw, []int{0, 2, 1, 3}, 3, 2, []int{2, 0, 1, 3}},
		{paw, []int{0, 2, 1, 3}, 4, 1, nil},
		{paw, []int{0, 2, 1, 3}, 6, 1, nil},
		{paw, []int{0, 2, 1, 3}, 27, 30, []int{2, 0, 1, 3}},
		{paw, []int{0, 2, 1, 3}, 30, 0, nil},
		{five, []int{0, 1, 2, 3, 4}, 2, 0, []int{0, 2, 4, 1, 3}},
		{five, []int{0, 1, 2, 3, 4}, 2, 3, []int{3, 0, 2, 4, 1}},
		{five, []int{0, 1, 2, 3, 4}, 3, 4, []int{4, 2, 0, 3, 1}},
		{five, []int{0, 1, 2, 3, 4}, 4, 1, []int{1, 0, 4, 3, 2}},
		{five, []int{0, 1, 2, 3, 4}, 5, 0, nil},
		{five, []int{0, 1, 2, 3, 4}, 10, 1, nil},
		{five, []int{0, 1, 2, 3, 4}, 25, 0, nil},
		{five, []int{0, 1, 2, 3, 4}, 27, 30, []int{0, 2, 4, 1, 3}},
		// Six wires: just 1 and 5, and those that leave them.
		{four, []int{0, 1, 2, 4}, 0, 0, nil},
		{four, []int{0, 1, 2, 4}, 1, 5, []int{5, 0, 1, 3}},
		{four, []int{0, 1, 2, 4}, 2, 0, nil},
		{four, []int{0, 1, 2, 4}, 3, 0, nil},
		{four, []int{0, 1, 2, 4}, 4, 0, nil},
		{four, []int{0, 1, 2, 4}, 5, 0, []int{0, 5, 4, 2}},
		{four, []int{0, 1, 2, 4}, 5, 2, []int{2, 1, 0, 4}},
		{four, []int{0, 1, 2, 4}, 6, 0, nil},
		{four, []int{0, 1, 2, 4}, 9, 1, nil},
		{four, []int{0, 1, 2, 4}, 7, 6, []int{0, 1, 2, 4}},
		{four, []int{0, 1, 2, 4}, 25, 30, []int{0, 1, 2, 4}},
		{four, []int{0, 1, 2, 4}, 26, 1, nil},
		{book, []int{0, 1, 2, 4, 6, 8}, 2, 0, []int{0, 2, 4, 8, 3, 7}},
		{book, []int{0, 1, 2, 4, 6, 8}, 3, 0, nil},
		{book, []int{0, 1, 2, 4, 6, 8}, 6, 1, nil},
		{book, []int{0, 1, 2, 4, 6, 8}, 4, 1, []int{1, 5, 0, 8, 7, 6}},
		{book, []int{0, 1, 2, 4, 6, 8}, 10, 9, []int{0, 1, 2, 4, 6, 8}},
		{book, []int{0, 1, 2, 4, 6, 8}, 29, 30, []int{3, 5, 7, 2, 6, 1}},
		{tail, []int{0, 1, 2, 4, 7, 10}, 0, 0, nil},
		{tail, []int{0, 1, 2, 4, 7, 10}, 2, 0, []int{0, 2, 4, 8, 3, 9}},
		{tail, []int{0, 1, 2, 4, 7, 10}, 11, 0, nil},
		{tail, []int{0, 1, 2, 4, 7, 10}, 22, 1, nil},
		{tail, []int{0, 1, 2, 4, 7, 10}, 10, 10, []int{10, 9, 8, 6, 3, 0}},
		{tail, []int{0, 1, 2, 4, 7, 10}, 30, 30, []int{8, 5, 2, 7, 9, 0}},
		// What is no harmonious row.
		{path, []int{0, 1, 2, 3}, 1, 0, nil},
		{path, []int{0, 0, 1, 1}, 1, 1, nil},
		{path, []int{0, 0, 1, 2}, 1, 0, nil},
		{path, []int{3, 0, 2, 1}, 1, 0, nil},
		{path, []int{0, 1, 2}, 1, 0, nil},
		{path, []int{0, 1, 2, 0, 1}, 1, 0, nil},
		{path, []int{0, 1, -1, 0}, 1, 1, nil},
		{[]int{2, 5, 10}, []int{0, 1, 2}, 1, 0, nil},
		{[]int{0}, []int{0}, 1, 0, nil},
		{[]int{0, 0}, []int{0, 0}, 1, 0, nil},
		{[]int{0, 0}, []int{0, 1}, 1, 1, nil},
		{paw, []int{0, 1, 2, 3}, 1, 0, nil},
		{nil, nil, 1, 0, nil},
	}
	for _, c := range cases {
		if got := impl.HarmonyMoved(c.net, c.row, c.factor, c.by); !sameList(got, c.moved) {
			t.Errorf("HarmonyMoved(%v, %v, %d, %d) is %v, not %v", c.net, c.row, c.factor, c.by, got, c.moved)
		}
	}
}

// Promise 54.
func TestHarmonyNeedsAsManyWiresAsPlaces(t *testing.T) {
	eachKindOfNet(t, func(net []int, table pairTable) {
		for _, row := range impl.HarmonyRows(net) {
			if !impl.HarmonyOk(net, row) {
				t.Errorf("HarmonyOk is false of %v", row)
			}
			if impl.WiresOf(net) < len(net) && !impl.TreeOk(net) {
				t.Errorf("%v is harmonious, but there are fewer wires than places", row)
			}
			if moved := impl.HarmonyMoved(net, row, 1, 1); !impl.HarmonyOk(net, moved) {
				t.Errorf("%v moved by 1 is %v, which is not harmonious", row, moved)
			}
		}
	})
}

// Promise 54: nets of fewer wires than places that are no trees, with all names that their places can have, have no harmonious row; and each tree with wires of at most mostPlaces places has one.
func TestNetsOfFewWires(t *testing.T) {
	trees, others := 0, 0
	eachNet(t, func(net []int, table pairTable) {
		if len(table.wires()) >= len(net) || len(net) == 1 {
			return
		}
		rows := impl.HarmonyRows(net)
		if many := impl.HarmonyMany(net); many != len(rows) {
			t.Errorf("HarmonyMany is %d of %d rows", many, len(rows))
		}
		if !table.isTree() {
			others++
			if len(rows) != 0 {
				t.Errorf("%d rows, but fewer wires than places", len(rows))
			}
			return
		}
		trees++
		if len(rows) == 0 {
			t.Error("a tree has none")
		}
		for _, row := range rows {
			if !isHarmonious(table.wires(), 1, row) {
				t.Errorf("%v is not harmonious", row)
			}
		}
	})
	if trees != 1+3+16+125+1296 || others == 0 {
		t.Errorf("%d trees and %d others", trees, others)
	}
}

// Promise 54, told by numbers.
func TestHarmonyOkByNumbers(t *testing.T) {
	wire := []int{2, 1}
	short := []int{2, 5, 2}
	path := []int{2, 5, 10, 4}
	ring := []int{6, 5, 3}
	paw := []int{6, 5, 11, 4}
	five := []int{18, 5, 10, 20, 9}
	four := []int{14, 13, 11, 7}
	book := []int{62, 61, 3, 3, 3, 3}
	tail := []int{62, 29, 27, 23, 15, 1}
	cases := []struct {
		net  []int
		row  []int
		want bool
	}{
		// Without wires there is no ring, so that no row is on it.
		{[]int{0}, []int{0}, false},
		{[]int{0}, []int{1}, false},
		{[]int{0, 0}, []int{0, 0}, false},
		{[]int{0, 0}, []int{0, 1}, false},
		{[]int{0, 0, 0}, []int{0, 1, 2}, false},
		// One wire: both ends have 0.
		{wire, []int{0, 0}, true},
		{wire, []int{0, 1}, false},
		{wire, []int{1, 0}, false},
		{wire, []int{1, 1}, false},
		{wire, []int{-1, -1}, false},
		{wire, []int{0}, false},
		// One wire and a lone place, which is no tree.
		{[]int{2, 1, 0}, []int{0, 0, 0}, false},
		{[]int{2, 1, 0}, []int{0, 0, 1}, false},
		{[]int{0, 4, 2}, []int{0, 0, 0}, false},
		// Trees with just one pair; the others have sums that are the same, or are the same on the ring, three places alike, or a number off the ring.
		{short, []int{0, 0, 1}, true},
		{short, []int{0, 1, 1}, true},
		{short, []int{1, 0, 0}, true},
		{short, []int{0, 1, 0}, false},
		{short, []int{1, 0, 1}, false},
		{short, []int{0, 0, 0}, false},
		{short, []int{0, 1, 2}, false},
		{short, []int{0, 0, 2}, false},
		// A path with one pair; then with no pair and with one pair, but a number off the ring.
		{path, []int{0, 1, 2, 0}, true},
		{path, []int{0, 1, 1, 2}, true},
		{path, []int{2, 1, 1, 0}, true},
		{path, []int{0, 1, 2, 3}, false},
		{path, []int{1, 0, 3, 2}, false},
		{path, []int{0, 3, 1, 1}, false},
		// Two pairs, but all sums different on the ring.
		{path, []int{0, 0, 1, 1}, false},
		{path, []int{0, 0, 2, 2}, false},
		{path, []int{1, 1, 0, 0}, false},
		// One pair, and sums that are different, but meet on the ring.
		{path, []int{0, 0, 1, 2}, false},
		{path, []int{0, 1, 2, 2}, false},
		// Sums that are the same, and numbers that are none of a row.
		{path, []int{0, 1, 0, 2}, false},
		{path, []int{0, 0, 0, 1}, false},
		{path, []int{-1, 0, 1, 1}, false},
		{path, []int{0, 1, 2, 30}, false},
		// Longer paths: one pair, two pairs, three places alike, none, one off the ring, and sums that meet on the ring.
		{[]int{2, 5, 10, 20, 8}, []int{0, 1, 3, 0, 2}, true},
		{[]int{2, 5, 10, 20, 8}, []int{0, 0, 1, 1, 2}, false},
		{[]int{2, 5, 10, 20, 8}, []int{0, 0, 1, 2, 0}, false},
		{[]int{2, 5, 10, 20, 8}, []int{0, 1, 3, 4, 2}, false},
		{[]int{2, 5, 10, 20, 8}, []int{0, 0, 1, 2, 4}, false},
		{[]int{2, 5, 10, 20, 8}, []int{0, 0, 1, 2, 3}, false},
		{[]int{2, 5, 10, 20, 40, 16}, []int{0, 1, 2, 2, 3, 4}, true},
		{[]int{2, 5, 10, 20, 40, 16}, []int{0, 0, 1, 3, 4, 4}, false},
		{[]int{2, 5, 10, 20, 40, 16}, []int{0, 0, 1, 1, 2, 2}, false},
		{[]int{2, 5, 10, 20, 40, 16}, []int{0, 1, 2, 3, 4, 5}, false},
		// A star: the pair must have its middle.
		{[]int{14, 1, 1, 1}, []int{0, 0, 1, 2}, true},
		{[]int{14, 1, 1, 1}, []int{1, 0, 1, 2}, true},
		{[]int{14, 1, 1, 1}, []int{0, 1, 1, 2}, false},
		{[]int{14, 1, 1, 1}, []int{0, 1, 2, 3}, false},
		{[]int{14, 1, 1, 1}, []int{1, 1, 2, 3}, false},
		// Fewer wires than places, but no tree: no pair is let through, even if all sums are different on the ring.
		{[]int{2, 1, 8, 4}, []int{0, 0, 0, 1}, false},
		{[]int{2, 1, 8, 4}, []int{0, 1, 0, 0}, false},
		{[]int{2, 1, 8, 4}, []int{0, 1, 2, 3}, false},
		{[]int{2, 1, 8, 4}, []int{0, 0, 1, 2}, false},
		{[]int{6, 5, 3, 0}, []int{0, 1, 2, 0}, false},
		{[]int{6, 5, 3, 0}, []int{0, 1, 2, 1}, false},
		{[]int{6, 5, 3, 0}, []int{0, 1, 2, 3}, false},
		{[]int{6, 5, 3, 16, 8}, []int{0, 1, 2, 1, 3}, false},
		{[]int{6, 5, 3, 16, 8}, []int{0, 1, 3, 2, 4}, false},
		{[]int{10, 5, 10, 5, 0}, []int{0, 0, 1, 2, 3}, false},
		{[]int{10, 5, 10, 5, 0}, []int{0, 1, 2, 4, 3}, false},
		{[]int{18, 5, 10, 20, 9, 0}, []int{0, 1, 2, 3, 4, 0}, false},
		{[]int{18, 5, 10, 20, 9, 0}, []int{0, 1, 2, 3, 4, 5}, false},
		{[]int{14, 13, 3, 3, 0, 0}, []int{0, 1, 2, 4, 0, 3}, false},
		// As many wires as places: no two places may be alike.
		{ring, []int{0, 1, 2}, true},
		{ring, []int{2, 1, 0}, true},
		{ring, []int{0, 0, 1}, false},
		{ring, []int{0, 1, 1}, false},
		{ring, []int{1, 2, 3}, false},
		{ring, []int{0, 1, 3}, false},
		{ring, []int{-1, 0, 1}, false},
		{[]int{10, 5, 10, 5}, []int{0, 1, 2, 3}, false},
		{[]int{10, 5, 10, 5}, []int{0, 1, 3, 2}, false},
		{paw, []int{0, 2, 1, 3}, true},
		{paw, []int{0, 1, 2, 2}, false},
		{paw, []int{0, 1, 3, 3}, false},
		{paw, []int{1, 2, 0, 4}, false},
		{paw, []int{0, 1, 2, 3}, false},
		{paw, []int{1, 0, 3, 2}, false},
		{five, []int{0, 1, 2, 3, 4}, true},
		{five, []int{0, 2, 4, 1, 3}, true},
		{five, []int{1, 2, 3, 4, 5}, false},
		{five, []int{0, 1, 3, 4, 2}, false},
		{five, []int{0, 2, 4, 3, 1}, false},
		{four, []int{0, 1, 2, 4}, true},
		{four, []int{1, 2, 4, 6}, false},
		{four, []int{0, 1, 2, 5}, false},
		{four, []int{0, 1, 2, 3}, false},
		// More wires than places.
		{[]int{14, 5, 11, 5}, []int{0, 1, 3, 2}, true},
		{[]int{14, 5, 11, 5}, []int{1, 2, 5, 4}, false},
		{[]int{14, 5, 11, 5}, []int{0, 1, 2, 4}, false},
		{book, []int{0, 1, 2, 4, 6, 8}, true},
		{book, []int{0, 1, 2, 4, 6, 9}, false},
		{book, []int{0, 1, 3, 5, 7, 8}, false},
		{tail, []int{0, 1, 2, 4, 7, 10}, true},
		{tail, []int{0, 1, 2, 4, 7, 11}, false},
		{[]int{60, 60, 51, 51, 15, 15}, []int{0, 1, 2, 3, 4, 5}, false},
		{[]int{62, 61, 59, 55, 47, 31}, []int{0, 1, 2, 4, 7, 12}, false},
	}
	for _, c := range cases {
		if impl.HarmonyOk(c.net, c.row) != c.want {
			t.Errorf("HarmonyOk(%v, %v) is %v", c.net, c.row, !c.want)
		}
	}
}

// Promise 54: of all rows of numbers around those of the ring just those are harmonious that the document names.
func TestHarmonyOkOfAllNumbers(t *testing.T) {
	eachSmallNet(t, func(net []int) {
		table := tableOfNet(net)
		eachRow(len(net), -1, len(table.wires())+1, func(row []int) {
			checkHarmony(t, net, table, row)
		})
	})
}

// Promise 54: all rows, with any numbers alike, of the nets with one wire less than places, which are trees or not.
func TestHarmonyOkOfAllRowsOfNetsOfFewWires(t *testing.T) {
	trees, others := 0, 0
	for places := 5; places <= mostPlaces; places++ {
		for _, table := range kindsOf(places) {
			if len(table.wires()) != places-1 {
				continue
			}
			wires, alike := table.wires(), alikeOf(table)
			trees += alike
			others += 1 - alike
			net := table.net()
			eachRow(places, 0, places-1, func(row []int) {
				if want := isHarmonious(wires, alike, row); impl.HarmonyOk(net, row) != want {
					t.Errorf("HarmonyOk(%v, %v) is %v", net, row, !want)
				}
			})
		}
	}
	if trees != 3+6 || others == 0 {
		t.Errorf("%d kinds of trees, and %d others", trees, others)
	}
}

// Promise 54: harmonious rows with one number changed, or with two numbers changed for each other, and rows of all kinds.
func TestHarmonyOkOfChangedRows(t *testing.T) {
	eachKindOfNet(t, func(net []int, table pairTable) {
		for _, row := range append(rowsOf(len(net)), spreadRowsOf(len(net))...) {
			checkHarmony(t, net, table, row)
		}
		rows := impl.HarmonyRows(net)
		for at := 0; at < len(rows); at += 1 + len(rows)/4 {
			for place := range net {
				for number := -1; number <= len(table.wires())+1; number++ {
					changed := append([]int{}, rows[at]...)
					changed[place] = number
					checkHarmony(t, net, table, changed)
				}
				for other := range net {
					changed := append([]int{}, rows[at]...)
					changed[place], changed[other] = changed[other], changed[place]
					checkHarmony(t, net, table, changed)
				}
			}
		}
	})
}

// Promise 55.
func TestAllHarmonyRowsAreTold(t *testing.T) {
	eachKindOfNet(t, func(net []int, table pairTable) {
		rows := impl.HarmonyRows(net)
		if !ascends(rows) {
			t.Errorf("HarmonyRows do not ascend: %v", rows)
		}
		for _, row := range rows {
			if !impl.HarmonyOk(net, row) {
				t.Errorf("%v is not harmonious", row)
			}
		}
	})
}

// Promise 55: moved round the ring all rows are again all rows.
func TestAllHarmonyRowsMovedAreAllOfThem(t *testing.T) {
	eachKindOfNet(t, func(net []int, table pairTable) {
		rows := impl.HarmonyRows(net)
		var moved, turned [][]int
		for _, row := range rows {
			moved = append(moved, impl.HarmonyMoved(net, row, 1, 1))
			// One less than the ring goes back as many steps: so it leaves no divisor but 1.
			turned = append(turned, impl.HarmonyMoved(net, row, len(table.wires())-1, 0))
		}
		sortRows(moved)
		sortRows(turned)
		if !sameLists(moved, rows, 0) || !sameLists(turned, rows, 0) {
			t.Error("moved by 1, or turned, they are others")
		}
	})
}

// Promises 14, 15, 54 and 55: what is no net has no rows.
func TestNoNetHasHarmony(t *testing.T) {
	for _, net := range badNets() {
		if rows := impl.HarmonyRows(net); len(rows) != 0 {
			t.Errorf("HarmonyRows(%v) are %v", net, rows)
		}
		if many := impl.HarmonyMany(net); many != -1 {
			t.Errorf("HarmonyMany(%v) is %d", net, many)
		}
		for places := 0; places <= mostPlaces+2; places++ {
			row := make([]int, places)
			checkNoHarmony(t, net, row)
			for place := range row {
				row[place] = place
			}
			checkNoHarmony(t, net, row)
		}
		checkNoHarmony(t, net, make([]int, len(net)))
		checkNoHarmony(t, net, []int{0, 1, 2, 0})
	}
}

// Promises 15 and 54: harmonious rows with some numbers less, or some more.
func TestHarmonyOfRowsOfAnotherLength(t *testing.T) {
	eachKindOfNet(t, func(net []int, table pairTable) {
		checkNoHarmony(t, net, nil)
		checkNoHarmony(t, net, make([]int, 1000))
		for _, row := range append(impl.HarmonyRows(net), make([]int, len(net))) {
			checkNoHarmony(t, net, row[1:])
			checkNoHarmony(t, net, row[:len(row)-1])
			checkNoHarmony(t, net, append(append([]int{}, row...), 0))
			checkNoHarmony(t, net, append([]int{len(table.wires()) - 1}, row...))
		}
	})
}

// Promises 15 and 54: harmonious rows with one number out of the ring, by once round it too, at each place.
func TestHarmonyOfNumbersOutOfTheRing(t *testing.T) {
	most := int(^uint(0) >> 1)
	eachHarmoniousRow(t, func(net []int, table pairTable, row []int) {
		ring := len(table.wires())
		for place := range row {
			for _, number := range []int{row[place] - ring, row[place] + ring, row[place] + 2*ring, -1, ring, mostLabel, mostLabel + 1, row[place] + 64, 1 << 40, most, -most - 1} {
				changed := append([]int{}, row...)
				changed[place] = number
				checkNoHarmony(t, net, changed)
			}
		}
	})
}
