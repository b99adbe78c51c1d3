package tests

import (
	"testing"

	"loop.example/labelnets/impl"
)

// The table of constants.
func TestMostLabel(t *testing.T) {
	if impl.MostLabel != mostLabel {
		t.Errorf("MostLabel is %d", impl.MostLabel)
	}
}

// eachRowOfNets calls check with every net of 1..mostPlaces places, its table, and rows of it of all kinds.
func eachRowOfNets(t *testing.T, check func(net []int, table pairTable, row []int)) {
	t.Helper()
	eachNet(t, func(net []int, table pairTable) {
		for _, row := range rowsOf(len(net)) {
			check(net, table, row)
			if t.Failed() {
				t.Fatalf("at the row %v", row)
			}
		}
	})
}

// eachSmallNet calls check with every net of so few places that each of its rows can be gone through with many numbers.
func eachSmallNet(t *testing.T, check func(net []int)) {
	t.Helper()
	for places := 1; places <= 4; places++ {
		for code := 0; code < power(places*(places-1)/2); code++ {
			check(pairsOf(places, code).net())
		}
	}
}

// Promise 3.
func TestDifferencesDoNotSeeATurn(t *testing.T) {
	eachRowOfNets(t, func(net []int, table pairTable, row []int) {
		differences := impl.Differences(net, row)
		sums := impl.Sums(net, row)
		if want := differencesOf(table, row); !sameList(differences, want) {
			t.Errorf("Differences is %v, not %v", differences, want)
		}
		if wires := impl.WiresOf(net); len(differences) != wires || len(sums) != wires {
			t.Fatalf("%d differences and %d sums of %d wires", len(differences), len(sums), wires)
		}
		for at := range differences {
			if differences[at]%2 != sums[at]%2 {
				t.Errorf("the difference %d and the sum %d of one wire", differences[at], sums[at])
			}
		}
		for most := greatest(row); most <= mostLabel; most += 5 {
			if got := impl.Differences(net, impl.TurnedRow(net, row, most)); !sameList(got, differences) {
				t.Errorf("turned by %d: %v, not %v", most, got, differences)
			}
		}
		for by := -least(row); by <= mostLabel-greatest(row); by += 5 {
			if got := impl.Differences(net, impl.MovedRow(net, row, by)); !sameList(got, differences) {
				t.Errorf("moved by %d: %v, not %v", by, got, differences)
			}
		}
	})
}

// Promises 3 and 43, told by numbers: differences and sums come in the order of the wires.
func TestDifferencesAndSumsByNumbers(t *testing.T) {
	cases := []struct {
		net         []int
		row         []int
		differences []int
		sums        []int
	}{
		{[]int{0}, []int{0}, nil, nil},
		{[]int{0}, []int{30}, nil, nil},
		{[]int{0, 0, 0}, []int{1, 2, 4}, nil, nil},
		{[]int{2, 1}, []int{0, 0}, []int{0}, []int{0}},
		{[]int{2, 1}, []int{30, 30}, []int{0}, []int{60}},
		{[]int{2, 1}, []int{0, 30}, []int{30}, []int{30}},
		{[]int{2, 1}, []int{30, 0}, []int{30}, []int{30}},
		{[]int{2, 5, 10, 4}, []int{0, 3, 1, 2}, []int{3, 2, 1}, []int{3, 4, 3}},
		{[]int{6, 5, 3}, []int{1, 10, 30}, []int{9, 29, 20}, []int{11, 31, 40}},
		{[]int{14, 1, 1, 1}, []int{20, 30, 0, 17}, []int{10, 20, 3}, []int{50, 20, 37}},
		{[]int{10, 5, 10, 5}, []int{0, 4, 1, 2}, []int{4, 2, 3, 1}, []int{4, 2, 5, 3}},
		{[]int{0, 4, 2}, []int{30, 2, 9}, []int{7}, []int{11}},
		{[]int{32, 16, 8, 4, 2, 1}, []int{0, 1, 2, 4, 8, 16}, []int{16, 7, 2}, []int{16, 9, 6}},
	}
	for _, c := range cases {
		if got := impl.Differences(c.net, c.row); !sameList(got, c.differences) {
			t.Errorf("Differences(%v, %v) is %v, not %v", c.net, c.row, got, c.differences)
		}
		if got := impl.Sums(c.net, c.row); !sameList(got, c.sums) {
			t.Errorf("Sums(%v, %v) is %v, not %v", c.net, c.row, got, c.sums)
		}
	}
}

// Promise 41.
func TestNumbersAreBounded(t *testing.T) {
	eachNet(t, func(net []int, table pairTable) {
		if !impl.RowOk(net, make([]int, len(net))) {
			t.Error("RowOk is false of noughts")
		}
		for _, row := range rowsOf(len(net)) {
			if !impl.RowOk(net, row) {
				t.Errorf("RowOk is false of %v", row)
			}
		}
	})
	eachSmallNet(t, func(net []int) {
		for places := 0; places <= mostPlaces+1; places++ {
			if want := places == len(net); impl.RowOk(net, make([]int, places)) != want {
				t.Errorf("RowOk(%v) of %d noughts is %v", net, places, !want)
			}
		}
	})
}

// Promises 41 and 42: of all rows of numbers around the right ones just those are right that the document names.
func TestRowOkOfAllNumbers(t *testing.T) {
	for places := 1; places <= 3; places++ {
		net := impl.ShapeNet(0, places)
		eachRow(places, -2, mostLabel+2, func(row []int) {
			right := least(row) >= 0 && greatest(row) <= mostLabel
			if impl.RowOk(net, row) != right {
				t.Errorf("RowOk(%v, %v) is %v", net, row, !right)
			}
			if once := right && unlike(row); impl.RowOnceOk(net, row) != once {
				t.Errorf("RowOnceOk(%v, %v) is %v", net, row, !once)
			}
		})
	}
}

// Promise 42.
func TestUnlikeNumbersMakeUnlikeEnds(t *testing.T) {
	eachRowOfNets(t, func(net []int, table pairTable, row []int) {
		once := impl.RowOnceOk(net, row)
		if once != unlike(row) {
			t.Errorf("RowOnceOk is %v", once)
		}
		if turned := impl.TurnedRow(net, row, mostLabel); impl.RowOnceOk(net, turned) != once {
			t.Errorf("RowOnceOk of the row turned, %v, is %v", turned, !once)
		}
		if !once {
			return
		}
		for _, difference := range impl.Differences(net, row) {
			if difference == 0 {
				t.Error("a difference is 0")
			}
		}
	})
}

// Promise 42: a number that any two places have, neighbours or not, is there twice.
func TestAnyTwoPlacesWithOneNumber(t *testing.T) {
	eachNet(t, func(net []int, table pairTable) {
		for _, number := range []int{0, 13, mostLabel} {
			for place := range net {
				for other := range net {
					row := []int{1, 2, 3, 4, 5, 6}[:len(net)]
					row[place] = number
					row[other] = number
					if want := place == other; impl.RowOnceOk(net, row) != want {
						t.Errorf("RowOnceOk of %v is %v", row, !want)
					}
				}
			}
		}
	})
}

// Promise 43.
func TestAllSumsCountEachPlaceByItsWires(t *testing.T) {
	eachRowOfNets(t, func(net []int, table pairTable, row []int) {
		sums := impl.Sums(net, row)
		if want := sumsOf(table, row); !sameList(sums, want) {
			t.Fatalf("Sums is %v, not %v", sums, want)
		}
		together := 0
		for _, sum := range sums {
			together += sum
		}
		for place := range row {
			together -= row[place] * table.nearMany(place)
		}
		if together != 0 {
			t.Errorf("the sums are together %d more than the numbers", together)
		}
		if greatest(row) == mostLabel {
			return
		}
		moved := impl.Sums(net, impl.MovedRow(net, row, 1))
		if len(moved) != len(sums) {
			t.Fatalf("%d sums of the row moved by 1", len(moved))
		}
		for at := range sums {
			if moved[at] != sums[at]+2 {
				t.Errorf("moved by 1: %v, not 2 more than %v", moved, sums)
			}
		}
	})
}

// Promise 44.
func TestTurnedTwiceItIsTheRow(t *testing.T) {
	eachRowOfNets(t, func(net []int, table pairTable, row []int) {
		for _, most := range []int{greatest(row), (greatest(row) + mostLabel) / 2, mostLabel} {
			turned := impl.TurnedRow(net, row, most)
			if want := turnedOf(row, most); !sameList(turned, want) {
				t.Errorf("turned by %d: %v, not %v", most, turned, want)
			}
			if !impl.RowOk(net, turned) {
				t.Errorf("turned by %d no row: %v", most, turned)
			}
			if again := impl.TurnedRow(net, turned, most); !sameList(again, row) {
				t.Errorf("turned twice by %d: %v", most, again)
			}
		}
		if turned := impl.TurnedRow(net, row, greatest(row)-1); len(turned) != 0 {
			t.Errorf("turned by less than the greatest: %v", turned)
		}
	})
}

// Promise 44: just the numbers from the greatest one of the row up to mostLabel turn it.
func TestTurnedByAllNumbers(t *testing.T) {
	eachSmallNet(t, func(net []int) {
		for _, row := range rowsOf(len(net)) {
			for _, most := range numbersAround() {
				var want []int
				if most >= greatest(row) && most <= mostLabel {
					want = turnedOf(row, most)
				}
				if got := impl.TurnedRow(net, row, most); !sameList(got, want) {
					t.Errorf("TurnedRow(%v, %v, %d) is %v, not %v", net, row, most, got, want)
				}
			}
		}
	})
}

// Promise 44, told by numbers.
func TestTurnedByNumbers(t *testing.T) {
	cases := []struct {
		net  []int
		row  []int
		most int
		want []int
	}{
		{[]int{0}, []int{0}, 0, []int{0}},
		{[]int{0}, []int{0}, 30, []int{30}},
		{[]int{0}, []int{30}, 30, []int{0}},
		{[]int{0}, []int{1}, 0, nil},
		{[]int{0}, []int{0}, 31, nil},
		{[]int{0}, []int{0}, -1, nil},
		{[]int{0, 0}, []int{0, 0}, 0, []int{0, 0}},
		{[]int{0, 0}, []int{3, 9}, 9, []int{6, 0}},
		{[]int{2, 5, 10, 4}, []int{0, 3, 1, 2}, 3, []int{3, 0, 2, 1}},
		{[]int{2, 5, 10, 4}, []int{0, 3, 1, 2}, 30, []int{30, 27, 29, 28}},
		{[]int{2, 5, 10, 4}, []int{0, 3, 1, 2}, 2, nil},
		{[]int{2, 5, 10, 4}, []int{0, 3, 1, 2}, 31, nil},
		{[]int{2, 5, 10, 4}, []int{0, 3, 1, 31}, 31, nil},
		{[]int{2, 5, 10, 4}, []int{0, 0, 0, 9}, 8, nil},
		{[]int{2, 5, 10, 4}, []int{9, 0, 0, 0}, 8, nil},
	}
	for _, c := range cases {
		if got := impl.TurnedRow(c.net, c.row, c.most); !sameList(got, c.want) {
			t.Errorf("TurnedRow(%v, %v, %d) is %v, not %v", c.net, c.row, c.most, got, c.want)
		}
	}
}

// Promise 45.
func TestMovedBackItIsTheRow(t *testing.T) {
	eachRowOfNets(t, func(net []int, table pairTable, row []int) {
		down := -least(row)
		up := mostLabel - greatest(row)
		for _, by := range []int{down, down / 2, 0, up / 2, up} {
			moved := impl.MovedRow(net, row, by)
			if want := movedOf(row, by); !sameList(moved, want) {
				t.Errorf("moved by %d: %v, not %v", by, moved, want)
			}
			if !impl.RowOk(net, moved) {
				t.Errorf("moved by %d no row: %v", by, moved)
			}
			if back := impl.MovedRow(net, moved, -by); !sameList(back, row) {
				t.Errorf("moved by %d and back: %v", by, back)
			}
		}
		for _, by := range []int{down - 1, up + 1} {
			if moved := impl.MovedRow(net, row, by); len(moved) != 0 {
				t.Errorf("moved by %d, too far: %v", by, moved)
			}
		}
	})
}

// Promise 45: just the numbers that lead no number out of 0..mostLabel move a row.
func TestMovedByAllNumbers(t *testing.T) {
	eachSmallNet(t, func(net []int) {
		for _, row := range rowsOf(len(net)) {
			for _, by := range numbersAround() {
				var want []int
				if by >= -least(row) && by <= mostLabel-greatest(row) {
					want = movedOf(row, by)
				}
				if got := impl.MovedRow(net, row, by); !sameList(got, want) {
					t.Errorf("MovedRow(%v, %v, %d) is %v, not %v", net, row, by, got, want)
				}
			}
		}
	})
}

// Promise 45, told by numbers.
func TestMovedByNumbers(t *testing.T) {
	cases := []struct {
		net  []int
		row  []int
		by   int
		want []int
	}{
		{[]int{0}, []int{0}, 0, []int{0}},
		{[]int{0}, []int{0}, 30, []int{30}},
		{[]int{0}, []int{30}, -30, []int{0}},
		{[]int{0}, []int{0}, 31, nil},
		{[]int{0}, []int{0}, -1, nil},
		{[]int{0}, []int{30}, 1, nil},
		{[]int{0}, []int{30}, -31, nil},
		{[]int{0, 0}, []int{30, 0}, 0, []int{30, 0}},
		{[]int{0, 0}, []int{30, 0}, 1, nil},
		{[]int{0, 0}, []int{30, 0}, -1, nil},
		{[]int{2, 5, 10, 4}, []int{0, 3, 1, 2}, 2, []int{2, 5, 3, 4}},
		{[]int{2, 5, 10, 4}, []int{0, 3, 1, 2}, 27, []int{27, 30, 28, 29}},
		{[]int{2, 5, 10, 4}, []int{0, 3, 1, 2}, 28, nil},
		{[]int{2, 5, 10, 4}, []int{9, 5, 7, 6}, -5, []int{4, 0, 2, 1}},
		{[]int{2, 5, 10, 4}, []int{9, 5, 7, 6}, -6, nil},
		{[]int{2, 5, 10, 4}, []int{9, 9, 9, 0}, -1, nil},
		{[]int{2, 5, 10, 4}, []int{0, 0, 0, 30}, 1, nil},
		{[]int{2, 5, 10, 4}, []int{31, 5, 7, 6}, -1, nil},
		{[]int{2, 5, 10, 4}, []int{-1, 5, 7, 6}, 1, nil},
	}
	for _, c := range cases {
		if got := impl.MovedRow(c.net, c.row, c.by); !sameList(got, c.want) {
			t.Errorf("MovedRow(%v, %v, %d) is %v, not %v", c.net, c.row, c.by, got, c.want)
		}
	}
}

// checkNoRow tells each function of the chapter that does not return its fixed result for what is no row of a net.
func checkNoRow(t *testing.T, net []int, row []int) {
	t.Helper()
	if impl.RowOk(net, row) {
		t.Errorf("RowOk(%v, %v)", net, row)
	}
	if impl.RowOnceOk(net, row) {
		t.Errorf("RowOnceOk(%v, %v)", net, row)
	}
	if got := impl.Differences(net, row); len(got) != 0 {
		t.Errorf("Differences(%v, %v) is %v", net, row, got)
	}
	if got := impl.Sums(net, row); len(got) != 0 {
		t.Errorf("Sums(%v, %v) is %v", net, row, got)
	}
	for _, number := range numbersAround() {
		if got := impl.TurnedRow(net, row, number); len(got) != 0 {
			t.Errorf("TurnedRow(%v, %v, %d) is %v", net, row, number, got)
		}
		if got := impl.MovedRow(net, row, number); len(got) != 0 {
			t.Errorf("MovedRow(%v, %v, %d) is %v", net, row, number, got)
		}
	}
}

// Promises 3 and 41 to 45: what is no net has no rows, not even one with as many numbers.
func TestNoNetHasRows(t *testing.T) {
	for _, net := range badNets() {
		for places := 0; places <= len(net)+1; places++ {
			row := make([]int, places)
			checkNoRow(t, net, row)
			for place := range row {
				row[place] = place % (mostLabel + 1)
			}
			checkNoRow(t, net, row)
			if places > mostPlaces+2 {
				break
			}
		}
		checkNoRow(t, net, make([]int, len(net)))
	}
}

// Promises 3 and 41 to 45: rows of more or fewer numbers than places.
func TestRowsOfAnotherLength(t *testing.T) {
	eachSmallNet(t, func(net []int) {
		checkNoRow(t, net, nil)
		checkNoRow(t, net, make([]int, 1000))
		for places := 0; places <= mostPlaces+1; places++ {
			if places == len(net) {
				continue
			}
			row := make([]int, places)
			checkNoRow(t, net, row)
			for place := range row {
				row[place] = place
			}
			checkNoRow(t, net, row)
		}
	})
}

// Promises 3 and 41 to 45: one number out of range, at each place of each net, without wires too.
func TestNumbersOutOfRange(t *testing.T) {
	most := int(^uint(0) >> 1)
	for _, number := range []int{-1, -2, -mostLabel, mostLabel + 1, mostLabel + 2, 64, 1 << 40, most, -most - 1} {
		eachSmallNet(t, func(net []int) {
			for _, row := range rowsOf(len(net)) {
				for place := range row {
					changed := append([]int{}, row...)
					changed[place] = number
					checkNoRow(t, net, changed)
				}
			}
		})
		for places := 5; places <= mostPlaces; places++ {
			for kind := 0; kind <= 2; kind++ {
				net := impl.ShapeNet(kind, places)
				for place := range net {
					row := make([]int, places)
					row[place] = number
					checkNoRow(t, net, row)
				}
			}
		}
	}
}
