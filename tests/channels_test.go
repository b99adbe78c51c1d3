package tests

import (
	"testing"

	"loop.example/labelnets/impl"
)

// eachGreedyRow calls check with every net of less than mostPlaces places, and one of each kind of mostPlaces places, and the row that GreedyRow returns for each order of its places.
func eachGreedyRow(t *testing.T, check func(net []int, order []int, row []int)) {
	t.Helper()
	eachOrder(t, func(net []int, table pairTable, order []int) {
		check(net, order, impl.GreedyRow(net, order))
	})
}

// checkChannels tells if ChannelOk does not say the same of a row as is found another way.
func checkChannels(t *testing.T, net []int, table pairTable, row []int) {
	t.Helper()
	if want := isRow(len(net), row) && table.areChannels(row); impl.ChannelOk(net, row) != want {
		t.Errorf("ChannelOk(%v, %v) is %v", net, row, !want)
	}
}

// checkNoChannels tells if ChannelOk holds of what is no row of a net.
func checkNoChannels(t *testing.T, net []int, row []int) {
	t.Helper()
	if impl.ChannelOk(net, row) {
		t.Errorf("ChannelOk(%v, %v)", net, row)
	}
}

// checkNoGreedy tells if GreedyRow returns a row for what is no order of the places of a net.
func checkNoGreedy(t *testing.T, net []int, order []int) {
	t.Helper()
	if row := impl.GreedyRow(net, order); len(row) != 0 {
		t.Errorf("GreedyRow(%v, %v) is %v", net, order, row)
	}
}

// checkTurned tells if a row of channels is none turned by its greatest number, or none moved by 1 that is a row still.
func checkTurned(t *testing.T, net []int, row []int) {
	t.Helper()
	if !impl.ChannelOk(net, row) {
		t.Errorf("ChannelOk(%v, %v) is false", net, row)
	}
	if turned := impl.TurnedRow(net, row, greatest(row)); !impl.ChannelOk(net, turned) {
		t.Errorf("ChannelOk(%v, %v) is false of %v turned", net, turned, row)
	}
	if moved := impl.MovedRow(net, row, 1); impl.ChannelOk(net, moved) != (greatest(row) < mostLabel) {
		t.Errorf("ChannelOk(%v, %v) is %v of %v moved", net, moved, greatest(row) == mostLabel, row)
	}
}

// Promise 23.
func TestTurnedChannelsStayApart(t *testing.T) {
	eachGreedyRow(t, func(net []int, order []int, row []int) {
		checkTurned(t, net, row)
	})
	eachNet(t, func(net []int, table pairTable) {
		checkTurned(t, net, impl.ChannelFirst(net))
	})
}

// Promise 23: of all rows of small numbers those are channels turned, and moved, that are so.
func TestJustChannelsTurnedAreChannels(t *testing.T) {
	channels, others := 0, 0
	eachNetUpTo(t, 4, func(net []int, table pairTable) {
		eachRow(len(net), 0, 5, func(row []int) {
			if impl.ChannelOk(net, row) {
				channels++
				checkTurned(t, net, row)
				return
			}
			others++
			checkNoChannels(t, net, impl.TurnedRow(net, row, greatest(row)))
			checkNoChannels(t, net, impl.MovedRow(net, row, 1))
		})
	})
	if channels == 0 || others == 0 {
		t.Errorf("%d rows are channels, and %d are not", channels, others)
	}
}

// Promise 23: channels stay so moved as far as there are numbers, one by one, and turned then.
func TestChannelsMovedToTheEnd(t *testing.T) {
	eachKindOfNet(t, func(net []int, table pairTable) {
		row := impl.ChannelFirst(net)
		span := impl.FewestSpan(net)
		for by := 0; by <= mostLabel-span; by++ {
			checkTurned(t, net, movedOf(row, by))
			if turned := impl.TurnedRow(net, movedOf(row, by), mostLabel); !impl.ChannelOk(net, turned) {
				t.Errorf("ChannelOk is false of %v moved by %d, and turned by %d", row, by, mostLabel)
			}
		}
		checkNoChannels(t, net, movedOf(row, mostLabel-span+1))
		if least(row) == 0 {
			checkNoChannels(t, net, movedOf(row, -1))
		}
	})
}

// Promises 23 and 61: of all rows of numbers around the right ones just the channels are.
func TestRowsAreChannelsOrNot(t *testing.T) {
	eachNetUpTo(t, 2, func(net []int, table pairTable) {
		eachRow(len(net), -3, mostLabel+3, func(row []int) { checkChannels(t, net, table, row) })
	})
	eachNetUpTo(t, 3, func(net []int, table pairTable) {
		eachRow(len(net), -1, 9, func(row []int) { checkChannels(t, net, table, row) })
		eachRow(len(net), mostLabel-9, mostLabel+1, func(row []int) { checkChannels(t, net, table, row) })
	})
	eachNetUpTo(t, 4, func(net []int, table pairTable) {
		eachRow(len(net), -1, 6, func(row []int) { checkChannels(t, net, table, row) })
	})
	for kind := 0; kind <= 2; kind++ {
		for places := 5; places <= mostPlaces; places++ {
			table := shapeTable(kind, places)
			net := table.net()
			eachRow(places, 0, 5, func(row []int) { checkChannels(t, net, table, row) })
		}
	}
}

// Promises 23 and 61: one number of channels is changed to each other one, and to such as no row has.
func TestChannelsWithOneNumberChanged(t *testing.T) {
	eachKindOfNet(t, func(net []int, table pairTable) {
		first := impl.ChannelFirst(net)
		for place := range first {
			for number := -2; number <= mostLabel+2; number++ {
				row := append([]int{}, first...)
				row[place] = number
				checkChannels(t, net, table, row)
			}
		}
	})
}

// Promises 23 and 61: any two places of any net have the same number, or such as differ by 1 or by 2, and all other places such as are far from these and from each other.
func TestAnyTwoPlacesWithNearNumbers(t *testing.T) {
	eachNet(t, func(net []int, table pairTable) {
		for place := range net {
			for other := range net[:place] {
				for by := 0; by <= 3; by++ {
					row := []int{18, 21, 24, 27, 30, 15}[:len(net)]
					row = append([]int{}, row...)
					row[place] = 5
					row[other] = 5 + by
					if want := by >= table.apart(place, other); impl.ChannelOk(net, row) != want {
						t.Errorf("ChannelOk is %v of %v", !want, row)
					}
					row[place] = 5 + by
					row[other] = 5
					if want := by >= table.apart(place, other); impl.ChannelOk(net, row) != want {
						t.Errorf("ChannelOk is %v of %v", !want, row)
					}
				}
			}
		}
	})
}

// Promises 23 and 61, told by numbers.
func TestChannelOkByNumbers(t *testing.T) {
	cases := []struct {
		net  []int
		row  []int
		want bool
	}{
		// One place, and lone ones, may have each number.
		{[]int{0}, []int{0}, true},
		{[]int{0}, []int{30}, true},
		{[]int{0}, []int{31}, false},
		{[]int{0}, []int{-1}, false},
		{[]int{0, 0}, []int{0, 0}, true},
		{[]int{0, 0}, []int{7, 8}, true},
		{[]int{0, 0, 0, 0, 0, 0}, []int{3, 3, 3, 3, 3, 3}, true},
		{[]int{0, 0, 0, 0, 0, 0}, []int{3, 3, 3, 3, 3, 31}, false},
		// Neighbours: the same number, by 1, by 2, and by more.
		{[]int{2, 1}, []int{4, 4}, false},
		{[]int{2, 1}, []int{4, 5}, false},
		{[]int{2, 1}, []int{5, 4}, false},
		{[]int{2, 1}, []int{4, 6}, true},
		{[]int{2, 1}, []int{6, 4}, true},
		{[]int{2, 1}, []int{4, 7}, true},
		{[]int{2, 1}, []int{0, 30}, true},
		{[]int{2, 1}, []int{29, 30}, false},
		{[]int{2, 1}, []int{30, 28}, true},
		{[]int{2, 1}, []int{30, 32}, false},
		{[]int{2, 1}, []int{-1, 2}, false},
		// A place beside a wire may have the number of one of its ends.
		{[]int{2, 1, 0}, []int{4, 6, 4}, true},
		{[]int{2, 1, 0}, []int{4, 6, 5}, true},
		{[]int{2, 1, 0}, []int{4, 5, 9}, false},
		{[]int{8, 0, 0, 1}, []int{1, 1, 1, 3}, true},
		{[]int{8, 0, 0, 1}, []int{1, 1, 1, 2}, false},
		// Places with a common neighbour: the same number, and by 1.
		{[]int{2, 5, 2}, []int{0, 2, 0}, false},
		{[]int{2, 5, 2}, []int{0, 3, 1}, true},
		{[]int{2, 5, 2}, []int{1, 3, 0}, true},
		{[]int{2, 5, 2}, []int{0, 2, 1}, false},
		{[]int{2, 5, 2}, []int{0, 2, 4}, true},
		{[]int{6, 1, 1}, []int{2, 0, 0}, false},
		{[]int{6, 1, 1}, []int{3, 0, 1}, true},
		{[]int{6, 1, 1}, []int{3, 5, 6}, true},
		{[]int{14, 1, 1, 1}, []int{0, 2, 3, 4}, true},
		{[]int{14, 1, 1, 1}, []int{0, 2, 3, 2}, false},
		{[]int{14, 1, 1, 1}, []int{2, 0, 4, 5}, true},
		{[]int{14, 1, 1, 1}, []int{2, 0, 4, 3}, false},
		{[]int{62, 1, 1, 1, 1, 1}, []int{6, 0, 1, 2, 3, 4}, true},
		{[]int{62, 1, 1, 1, 1, 1}, []int{6, 0, 1, 2, 3, 0}, false},
		// Places farther away may have the same number.
		{[]int{2, 5, 10, 4}, []int{1, 3, 0, 2}, true},
		{[]int{2, 5, 10, 4}, []int{0, 2, 4, 0}, true},
		{[]int{2, 5, 10, 4}, []int{0, 2, 4, 1}, true},
		{[]int{2, 5, 10, 4}, []int{0, 1, 3, 5}, false},
		{[]int{2, 5, 10, 4}, []int{0, 2, 0, 2}, false},
		{[]int{2, 5, 10, 4}, []int{0, 2, 4, 2}, false},
		{[]int{2, 5, 10, 4}, []int{0, 2, 4, 5}, false},
		{[]int{2, 5, 10, 20, 40, 16}, []int{0, 2, 4, 0, 2, 4}, true},
		{[]int{2, 5, 10, 20, 40, 16}, []int{0, 2, 4, 0, 2, 0}, false},
		{[]int{2, 5, 10, 20, 40, 16}, []int{0, 2, 4, 0, 2, 1}, false},
		// Rings: the last place is a neighbour of the first one, and has the second one not far.
		{[]int{6, 5, 3}, []int{0, 2, 4}, true},
		{[]int{6, 5, 3}, []int{0, 2, 3}, false},
		{[]int{6, 5, 3}, []int{0, 3, 1}, false},
		{[]int{10, 5, 10, 5}, []int{0, 3, 1, 4}, true},
		{[]int{10, 5, 10, 5}, []int{0, 2, 4, 1}, false},
		{[]int{10, 5, 10, 5}, []int{0, 2, 4, 2}, false},
		{[]int{18, 5, 10, 20, 9}, []int{0, 2, 4, 1, 3}, true},
		{[]int{18, 5, 10, 20, 9}, []int{0, 2, 4, 0, 2}, false},
		{[]int{34, 5, 10, 20, 40, 17}, []int{0, 2, 4, 0, 2, 4}, true},
		{[]int{34, 5, 10, 20, 40, 17}, []int{0, 2, 4, 1, 3, 5}, true},
		{[]int{34, 5, 10, 20, 40, 17}, []int{0, 2, 4, 0, 3, 1}, false},
		// All pairs of places.
		{[]int{14, 13, 11, 7}, []int{0, 2, 4, 6}, true},
		{[]int{14, 13, 11, 7}, []int{6, 0, 4, 2}, true},
		{[]int{14, 13, 11, 7}, []int{0, 2, 4, 5}, false},
		{[]int{62, 61, 59, 55, 47, 31}, []int{0, 2, 4, 6, 8, 10}, true},
		{[]int{62, 61, 59, 55, 47, 31}, []int{20, 30, 22, 28, 24, 26}, true},
		{[]int{62, 61, 59, 55, 47, 31}, []int{0, 2, 4, 6, 8, 9}, false},
		// Parts do not see each other.
		{[]int{2, 1, 8, 4}, []int{0, 2, 0, 2}, true},
		{[]int{2, 1, 8, 4}, []int{0, 2, 1, 3}, true},
		{[]int{2, 1, 8, 4}, []int{0, 2, 3, 4}, false},
		{[]int{6, 5, 3, 48, 40, 24}, []int{0, 2, 4, 4, 2, 0}, true},
		{[]int{6, 5, 3, 48, 40, 24}, []int{0, 2, 4, 4, 3, 0}, false},
	}
	for _, c := range cases {
		if impl.ChannelOk(c.net, c.row) != c.want {
			t.Errorf("ChannelOk(%v, %v) is %v", c.net, c.row, !c.want)
		}
	}
}

// Promise 24.
func TestSpansAreToldByNeighbours(t *testing.T) {
	oneMore, twoMore := make([]int, mostPlaces+1), make([]int, mostPlaces+1)
	eachNet(t, func(net []int, table pairTable) {
		span := impl.FewestSpan(net)
		most := impl.MostNear(net)
		if impl.WiresOf(net) == 0 {
			if span != 0 {
				t.Errorf("FewestSpan is %d without wires", span)
			}
			return
		}
		if span <= most || span > most*(most+1) {
			t.Errorf("FewestSpan is %d, and a place has %d neighbours", span, most)
		}
		if !impl.TreeOk(net) {
			return
		}
		switch span - most {
		case 1:
			oneMore[len(net)]++
		case 2:
			twoMore[len(net)]++
		default:
			t.Errorf("FewestSpan is %d of a tree, and a place has %d neighbours", span, most)
		}
	})
	// Just paths of five and of six places have two more.
	if !sameList(oneMore, []int{0, 0, 1, 3, 16, 65, 936}) || !sameList(twoMore, []int{0, 0, 0, 0, 0, 60, 360}) {
		t.Errorf("the span of so many trees is one more, %v, and two more: %v", oneMore, twoMore)
	}
}

// Promise 24: the paths of the other net.
func TestSpansAreToldByPathsOfAllOtherPairs(t *testing.T) {
	onePath, more := make([]int, mostPlaces+1), make([]int, mostPlaces+1)
	eachNet(t, func(net []int, table pairTable) {
		span := impl.FewestSpan(net)
		paths := impl.PathCover(impl.OtherNet(net))
		if paths == 1 {
			onePath[len(net)]++
			if span >= len(net) {
				t.Errorf("FewestSpan is %d, and one path has all places of the other net", span)
			}
			return
		}
		more[len(net)]++
		if span != len(net)+paths-2 {
			t.Errorf("FewestSpan is %d, and %d paths have all places of the other net", span, paths)
		}
	})
	if !sameList(onePath, []int{0, 1, 1, 4, 34, 633, 23368}) || !sameList(more, []int{0, 0, 1, 4, 30, 391, 9400}) {
		t.Errorf("one path has all places of so many other nets, %v, and not of so many: %v", onePath, more)
	}
}

// Promises 24 and 61 to 63, told by numbers.
func TestSpansAndPathsByNumbers(t *testing.T) {
	cases := []struct {
		net   []int
		span  int
		first []int
		other []int
		paths int
	}{
		// One place, and lone ones.
		{[]int{0}, 0, []int{0}, []int{0}, 1},
		{[]int{0, 0}, 0, []int{0, 0}, []int{2, 1}, 2},
		{[]int{0, 0, 0}, 0, []int{0, 0, 0}, []int{6, 5, 3}, 3},
		{[]int{0, 0, 0, 0}, 0, []int{0, 0, 0, 0}, []int{14, 13, 11, 7}, 4},
		{[]int{0, 0, 0, 0, 0}, 0, []int{0, 0, 0, 0, 0}, []int{30, 29, 27, 23, 15}, 5},
		{[]int{0, 0, 0, 0, 0, 0}, 0, []int{0, 0, 0, 0, 0, 0}, []int{62, 61, 59, 55, 47, 31}, 6},
		// One wire, beside lone places too.
		{[]int{2, 1}, 2, []int{0, 2}, []int{0, 0}, 1},
		{[]int{2, 1, 0}, 2, []int{0, 2, 0}, []int{4, 4, 3}, 2},
		{[]int{0, 4, 2}, 2, []int{0, 0, 2}, []int{6, 1, 1}, 2},
		{[]int{4, 0, 1}, 2, []int{0, 0, 2}, []int{2, 5, 2}, 2},
		{[]int{2, 1, 0, 0}, 2, []int{0, 2, 0, 0}, []int{12, 12, 11, 7}, 3},
		{[]int{8, 0, 0, 1}, 2, []int{0, 0, 0, 2}, []int{6, 13, 11, 6}, 3},
		{[]int{2, 1, 0, 0, 0}, 2, []int{0, 2, 0, 0, 0}, []int{28, 28, 27, 23, 15}, 4},
		{[]int{0, 0, 0, 0, 32, 16}, 2, []int{0, 0, 0, 0, 0, 2}, []int{62, 61, 59, 55, 15, 15}, 5},
		{[]int{32, 0, 0, 0, 0, 1}, 2, []int{0, 0, 0, 0, 0, 2}, []int{30, 61, 59, 55, 47, 30}, 5},
		// Wires side by side.
		{[]int{2, 1, 8, 4}, 2, []int{0, 2, 0, 2}, []int{12, 12, 3, 3}, 2},
		{[]int{4, 8, 1, 2}, 2, []int{0, 0, 2, 2}, []int{10, 5, 10, 5}, 2},
		{[]int{8, 4, 2, 1}, 2, []int{0, 0, 2, 2}, []int{6, 9, 9, 6}, 2},
		{[]int{2, 1, 8, 4, 0}, 2, []int{0, 2, 0, 2, 0}, []int{28, 28, 19, 19, 15}, 3},
		{[]int{32, 16, 8, 4, 2, 1}, 2, []int{0, 0, 0, 2, 2, 2}, []int{30, 45, 51, 51, 45, 30}, 3},
		// Paths.
		{[]int{2, 5, 2}, 3, []int{0, 3, 1}, []int{4, 0, 1}, 1},
		{[]int{6, 1, 1}, 3, []int{0, 2, 3}, []int{0, 4, 2}, 1},
		{[]int{2, 5, 10, 4}, 3, []int{1, 3, 0, 2}, []int{12, 8, 1, 3}, 1},
		{[]int{4, 8, 9, 6}, 3, []int{1, 2, 3, 0}, []int{10, 5, 2, 1}, 1},
		{[]int{2, 5, 10, 20, 8}, 4, []int{0, 2, 4, 0, 2}, []int{28, 24, 17, 3, 7}, 1},
		{[]int{2, 5, 10, 20, 40, 16}, 4, []int{0, 2, 4, 0, 2, 4}, []int{60, 56, 49, 35, 7, 15}, 1},
		{[]int{32, 24, 48, 2, 6, 5}, 4, []int{0, 0, 1, 2, 3, 4}, []int{30, 37, 11, 53, 41, 26}, 1},
		// Stars, and other trees.
		{[]int{14, 1, 1, 1}, 4, []int{0, 2, 3, 4}, []int{0, 12, 10, 6}, 2},
		{[]int{8, 8, 8, 7}, 4, []int{0, 1, 2, 4}, []int{6, 5, 3, 0}, 2},
		{[]int{30, 1, 1, 1, 1}, 5, []int{0, 2, 3, 4, 5}, []int{0, 28, 26, 22, 14}, 3},
		{[]int{16, 16, 16, 16, 15}, 5, []int{0, 1, 2, 3, 5}, []int{14, 13, 11, 7, 0}, 3},
		{[]int{62, 1, 1, 1, 1, 1}, 6, []int{0, 2, 3, 4, 5, 6}, []int{0, 60, 58, 54, 46, 30}, 4},
		{[]int{32, 32, 32, 32, 32, 31}, 6, []int{0, 1, 2, 3, 4, 6}, []int{30, 29, 27, 23, 15, 0}, 4},
		{[]int{2, 13, 2, 18, 8}, 4, []int{0, 4, 1, 2, 0}, []int{28, 16, 25, 5, 7}, 2},
		{[]int{2, 5, 42, 4, 32, 20}, 4, []int{0, 2, 4, 0, 3, 1}, []int{60, 56, 17, 51, 15, 11}, 2},
		{[]int{6, 25, 33, 2, 2, 4}, 4, []int{0, 4, 2, 1, 2, 4}, []int{56, 36, 26, 53, 45, 27}, 2},
		{[]int{14, 49, 1, 1, 2, 2}, 4, []int{0, 4, 2, 3, 1, 2}, []int{48, 12, 58, 54, 45, 29}, 2},
		// Rings, alone and beside lone places.
		{[]int{6, 5, 3}, 4, []int{0, 2, 4}, []int{0, 0, 0}, 1},
		{[]int{10, 5, 10, 5}, 4, []int{0, 3, 1, 4}, []int{4, 8, 1, 2}, 1},
		{[]int{12, 12, 3, 3}, 4, []int{0, 1, 3, 4}, []int{2, 1, 8, 4}, 1},
		{[]int{18, 5, 10, 20, 9}, 4, []int{0, 2, 4, 1, 3}, []int{12, 24, 17, 3, 6}, 1},
		{[]int{34, 5, 10, 20, 40, 17}, 4, []int{0, 2, 4, 0, 2, 4}, []int{28, 56, 49, 35, 7, 14}, 1},
		{[]int{6, 5, 3, 0}, 4, []int{0, 2, 4, 0}, []int{8, 8, 8, 7}, 2},
		{[]int{0, 12, 10, 6}, 4, []int{0, 0, 2, 4}, []int{14, 1, 1, 1}, 2},
		{[]int{10, 5, 10, 5, 0}, 4, []int{0, 3, 1, 4, 0}, []int{20, 24, 17, 18, 15}, 2},
		{[]int{6, 5, 3, 0, 0, 0}, 4, []int{0, 2, 4, 0, 0, 0}, []int{56, 56, 56, 55, 47, 31}, 4},
		{[]int{18, 5, 10, 20, 9, 0}, 4, []int{0, 2, 4, 1, 3, 0}, []int{44, 56, 49, 35, 38, 31}, 2},
		// Nets of several parts.
		{[]int{6, 5, 3, 48, 40, 24}, 4, []int{0, 2, 4, 0, 2, 4}, []int{56, 56, 56, 7, 7, 7}, 2},
		{[]int{6, 5, 3, 16, 8}, 4, []int{0, 2, 4, 0, 2}, []int{24, 24, 24, 7, 7}, 2},
		{[]int{34, 5, 2, 16, 8, 1}, 3, []int{0, 3, 1, 0, 2, 2}, []int{28, 56, 57, 39, 39, 30}, 2},
		{[]int{14, 1, 1, 1, 32, 16}, 4, []int{0, 2, 3, 4, 0, 2}, []int{48, 60, 58, 54, 15, 15}, 3},
		{[]int{2, 5, 2, 16, 40, 16}, 3, []int{0, 3, 1, 0, 3, 1}, []int{60, 56, 57, 39, 7, 15}, 2},
		// Other nets.
		{[]int{30, 29, 3, 3, 3}, 6, []int{0, 2, 4, 5, 6}, []int{0, 0, 24, 20, 12}, 1},
		{[]int{46, 45, 27, 23, 12, 3}, 6, []int{0, 2, 4, 6, 1, 5}, []int{16, 16, 32, 32, 35, 28}, 1},
		{[]int{58, 53, 10, 5, 3, 3}, 5, []int{0, 5, 1, 4, 2, 3}, []int{4, 8, 49, 50, 44, 28}, 1},
		{[]int{60, 60, 51, 51, 15, 15}, 7, []int{0, 1, 3, 4, 6, 7}, []int{2, 1, 8, 4, 32, 16}, 1},
		{[]int{6, 5, 11, 4}, 4, []int{0, 2, 4, 1}, []int{8, 8, 0, 3}, 1},
		{[]int{14, 5, 11, 5}, 5, []int{0, 2, 5, 3}, []int{0, 8, 0, 2}, 1},
		{[]int{62, 5, 3, 33, 33, 25}, 6, []int{0, 2, 4, 5, 6, 3}, []int{0, 56, 56, 22, 14, 6}, 1},
		{[]int{28, 28, 3, 3, 3}, 5, []int{0, 1, 3, 4, 5}, []int{2, 1, 24, 20, 12}, 1},
		{[]int{56, 56, 56, 7, 7, 7}, 6, []int{0, 1, 2, 4, 5, 6}, []int{6, 5, 3, 48, 40, 24}, 1},
		{[]int{62, 61, 3, 3, 3, 3}, 7, []int{0, 2, 4, 5, 6, 7}, []int{0, 0, 56, 52, 44, 28}, 2},
		{[]int{62, 29, 27, 23, 15, 1}, 8, []int{0, 2, 4, 6, 8, 3}, []int{0, 32, 32, 32, 32, 30}, 1},
		{[]int{14, 21, 35, 1, 2, 4}, 5, []int{0, 2, 4, 3, 5, 1}, []int{48, 40, 24, 54, 45, 27}, 2},
		// All pairs of places, beside lone ones too.
		{[]int{14, 13, 11, 7}, 6, []int{0, 2, 4, 6}, []int{0, 0, 0, 0}, 1},
		{[]int{30, 29, 27, 23, 15}, 8, []int{0, 2, 4, 6, 8}, []int{0, 0, 0, 0, 0}, 1},
		{[]int{62, 61, 59, 55, 47, 31}, 10, []int{0, 2, 4, 6, 8, 10}, []int{0, 0, 0, 0, 0, 0}, 1},
		{[]int{14, 13, 11, 7, 0, 0}, 6, []int{0, 2, 4, 6, 0, 0}, []int{48, 48, 48, 48, 47, 31}, 3},
		{[]int{30, 29, 27, 23, 15, 0}, 8, []int{0, 2, 4, 6, 8, 0}, []int{32, 32, 32, 32, 32, 31}, 2},
		{[]int{0, 60, 58, 54, 46, 30}, 8, []int{0, 0, 2, 4, 6, 8}, []int{62, 1, 1, 1, 1, 1}, 2},
	}
	for _, c := range cases {
		if span := impl.FewestSpan(c.net); span != c.span {
			t.Errorf("FewestSpan(%v) is %d, not %d", c.net, span, c.span)
		}
		if first := impl.ChannelFirst(c.net); !sameList(first, c.first) {
			t.Errorf("ChannelFirst(%v) is %v, not %v", c.net, first, c.first)
		}
		if other := impl.OtherNet(c.net); !sameList(other, c.other) {
			t.Errorf("OtherNet(%v) is %v, not %v", c.net, other, c.other)
		}
		if paths := impl.PathCover(c.net); paths != c.paths {
			t.Errorf("PathCover(%v) is %d, not %d", c.net, paths, c.paths)
		}
	}
}

// Promises 24 and 63: shapes, nets without wires and all pairs of places have spans and paths that one can tell without trying.
func TestSpansAndPathsOfShapes(t *testing.T) {
	spansOfPaths := []int{0, 0, 2, 3, 3, 4, 4}
	for places := 1; places <= mostPlaces; places++ {
		path := impl.ShapeNet(0, places)
		if span := impl.FewestSpan(path); span != spansOfPaths[places] || impl.PathCover(path) != 1 {
			t.Errorf("FewestSpan is %d, and PathCover %d, of the path of %d places", span, impl.PathCover(path), places)
		}
		if span := impl.FewestSpan(make([]int, places)); span != 0 || impl.PathCover(make([]int, places)) != places {
			t.Errorf("FewestSpan is %d, and PathCover %d, of %d places without wires", span, impl.PathCover(make([]int, places)), places)
		}
		all := impl.OtherNet(make([]int, places))
		if span := impl.FewestSpan(all); span != 2*(places-1) || impl.PathCover(all) != 1 {
			t.Errorf("FewestSpan is %d, and PathCover %d, of all pairs of %d places", span, impl.PathCover(all), places)
		}
	}
	for places := 3; places <= mostPlaces; places++ {
		ring := impl.ShapeNet(1, places)
		if span := impl.FewestSpan(ring); span != 4 || impl.PathCover(ring) != 1 {
			t.Errorf("FewestSpan is %d, and PathCover %d, of the ring of %d places", span, impl.PathCover(ring), places)
		}
		// One path has two legs of a star, and each other leg is one by itself.
		star := impl.ShapeNet(2, places)
		if span := impl.FewestSpan(star); span != places || impl.PathCover(star) != places-2 {
			t.Errorf("FewestSpan is %d, and PathCover %d, of the star of %d places", span, impl.PathCover(star), places)
		}
	}
}

// checkFirst tells where FewestSpan and ChannelFirst are not what one finds by trying all orders and all rows.
func checkFirst(t *testing.T, net []int, table pairTable) {
	t.Helper()
	want := spanOf(table)
	if span := impl.FewestSpan(net); span != want {
		t.Errorf("FewestSpan(%v) is %d, not %d", net, span, want)
	}
	if first := impl.ChannelFirst(net); !sameList(first, firstChannelsOf(table, want)) {
		t.Errorf("ChannelFirst(%v) is %v, not %v", net, first, firstChannelsOf(table, want))
	}
}

// Promises 24 and 61: just the span, and just the first row, that one finds by trying; also of each kind with its places called anew.
func TestFirstChannelsAreWhatIsFoundByTrying(t *testing.T) {
	eachKindOfNet(t, func(net []int, table pairTable) {
		checkFirst(t, net, table)
		for _, order := range someOrders(len(net)) {
			renamed := table.renamed(order)
			checkFirst(t, renamed.net(), renamed)
		}
	})
}

// Promise 61: no row of a lesser span is one of channels, and no row ahead of the first one of its span.
func TestNoChannelsAheadOfTheFirst(t *testing.T) {
	eachNetUpTo(t, 4, func(net []int, table pairTable) {
		first := impl.ChannelFirst(net)
		span := impl.FewestSpan(net)
		if len(first) != len(net) || greatest(first) != span {
			t.Fatalf("ChannelFirst is %v, and FewestSpan %d", first, span)
		}
		eachRow(len(net), 0, span, func(row []int) {
			if impl.ChannelOk(net, row) && (greatest(row) < span || comesAhead(row, first)) {
				t.Errorf("ChannelFirst is %v, but %v are channels", first, row)
			}
		})
	})
}

// Promise 61.
func TestFirstRowIsRight(t *testing.T) {
	eachNet(t, func(net []int, table pairTable) {
		first := impl.ChannelFirst(net)
		if !impl.ChannelOk(net, first) || !table.areChannels(first) {
			t.Fatalf("ChannelFirst is %v, which are no channels", first)
		}
		if span := impl.FewestSpan(net); greatest(first) != span {
			t.Errorf("ChannelFirst is %v, and FewestSpan %d", first, span)
		}
		// Moved downward it would have a lesser span.
		if least(first) != 0 {
			t.Errorf("ChannelFirst is %v, without 0", first)
		}
	})
}

// Promise 25.
func TestWhoTakesTheLeastChannelDoesNotGoFar(t *testing.T) {
	farther, asFar := 0, 0
	var spanned []int
	span, most := 0, 0
	eachGreedyRow(t, func(net []int, order []int, row []int) {
		// All orders of a net come one after the other.
		if !sameList(spanned, net) {
			spanned = append([]int{}, net...)
			span = impl.FewestSpan(net)
			most = impl.MostNear(net)
		}
		if !impl.ChannelOk(net, row) {
			t.Fatalf("GreedyRow is %v, which are no channels", row)
		}
		if greatest(row) < span || greatest(row) > most*(most+2) {
			t.Errorf("GreedyRow is %v, FewestSpan %d, and a place has %d neighbours", row, span, most)
		}
		if row[order[0]] != 0 {
			t.Errorf("GreedyRow is %v, and the first place has not the least channel", row)
		}
		if greatest(row) > span {
			farther++
		} else {
			asFar++
		}
	})
	if farther == 0 || asFar == 0 {
		t.Errorf("%d orders go farther than the least span, and %d do not", farther, asFar)
	}
}

// Promise 25: just the row that one finds by trying each channel from 0 on.
func TestGreedyRowsAreWhatIsFoundByTrying(t *testing.T) {
	eachOrder(t, func(net []int, table pairTable, order []int) {
		if row, want := impl.GreedyRow(net, order), greedyOf(table, order); !sameList(row, want) {
			t.Errorf("GreedyRow is %v, not %v", row, want)
		}
	})
}

// Promise 25: with its places called anew, and these taken in the same order, a net has the same channels.
func TestGreedyRowOfPlacesCalledAnew(t *testing.T) {
	for _, table := range kindsOf(mostPlaces) {
		for _, names := range someOrders(mostPlaces) {
			renamed := table.renamed(names).net()
			for _, order := range append(someOrders(mostPlaces), ownOrder(mostPlaces)) {
				var called []int
				for _, place := range order {
					called = append(called, names[place])
				}
				want := renamedRow(impl.GreedyRow(table.net(), order), names)
				if row := impl.GreedyRow(renamed, called); !sameList(row, want) {
					t.Errorf("GreedyRow(%v, %v) is %v, not %v", renamed, called, row, want)
				}
			}
		}
	}
}

// Promise 25, told by numbers.
func TestGreedyRowByNumbers(t *testing.T) {
	cases := []struct {
		net   []int
		order []int
		row   []int
	}{
		// One place, and lone ones.
		{[]int{0}, []int{0}, []int{0}},
		{[]int{0, 0}, []int{0, 1}, []int{0, 0}},
		{[]int{0, 0}, []int{1, 0}, []int{0, 0}},
		{[]int{0, 0, 0, 0, 0, 0}, []int{3, 0, 5, 1, 4, 2}, []int{0, 0, 0, 0, 0, 0}},
		// One wire, beside lone places too.
		{[]int{2, 1}, []int{0, 1}, []int{0, 2}},
		{[]int{2, 1}, []int{1, 0}, []int{2, 0}},
		{[]int{8, 0, 0, 1}, []int{0, 1, 2, 3}, []int{0, 0, 0, 2}},
		{[]int{8, 0, 0, 1}, []int{3, 2, 1, 0}, []int{2, 0, 0, 0}},
		{[]int{32, 0, 0, 0, 0, 1}, []int{5, 4, 3, 2, 1, 0}, []int{2, 0, 0, 0, 0, 0}},
		{[]int{4, 8, 1, 2}, []int{3, 2, 1, 0}, []int{2, 2, 0, 0}},
		// The places in their own order.
		{[]int{2, 5, 2}, []int{0, 1, 2}, []int{0, 2, 4}},
		{[]int{6, 1, 1}, []int{0, 1, 2}, []int{0, 2, 3}},
		{[]int{2, 5, 10, 4}, []int{0, 1, 2, 3}, []int{0, 2, 4, 0}},
		{[]int{4, 8, 9, 6}, []int{0, 1, 2, 3}, []int{0, 0, 2, 4}},
		{[]int{14, 1, 1, 1}, []int{0, 1, 2, 3}, []int{0, 2, 3, 4}},
		{[]int{10, 5, 10, 5}, []int{0, 1, 2, 3}, []int{0, 2, 4, 6}},
		{[]int{12, 12, 3, 3}, []int{0, 1, 2, 3}, []int{0, 1, 3, 4}},
		{[]int{18, 5, 10, 20, 9}, []int{0, 1, 2, 3, 4}, []int{0, 2, 4, 1, 3}},
		{[]int{2, 13, 2, 18, 8}, []int{0, 1, 2, 3, 4}, []int{0, 2, 4, 5, 0}},
		{[]int{2, 5, 42, 4, 32, 20}, []int{0, 1, 2, 3, 4, 5}, []int{0, 2, 4, 0, 0, 6}},
		{[]int{6, 25, 33, 2, 2, 4}, []int{0, 1, 2, 3, 4, 5}, []int{0, 2, 3, 4, 5, 1}},
		{[]int{14, 49, 1, 1, 2, 2}, []int{0, 1, 2, 3, 4, 5}, []int{0, 2, 3, 4, 4, 5}},
		{[]int{62, 5, 3, 33, 33, 25}, []int{0, 1, 2, 3, 4, 5}, []int{0, 2, 4, 3, 5, 7}},
		{[]int{58, 53, 10, 5, 3, 3}, []int{0, 1, 2, 3, 4, 5}, []int{0, 2, 4, 6, 5, 7}},
		{[]int{34, 5, 2, 16, 8, 1}, []int{0, 1, 2, 3, 4, 5}, []int{0, 2, 4, 0, 2, 3}},
		{[]int{62, 61, 59, 55, 47, 31}, []int{0, 1, 2, 3, 4, 5}, []int{0, 2, 4, 6, 8, 10}},
		// And backwards.
		{[]int{2, 5, 2}, []int{2, 1, 0}, []int{4, 2, 0}},
		{[]int{6, 1, 1}, []int{2, 1, 0}, []int{3, 1, 0}},
		{[]int{2, 5, 10, 4}, []int{3, 2, 1, 0}, []int{0, 4, 2, 0}},
		{[]int{4, 8, 9, 6}, []int{3, 2, 1, 0}, []int{4, 3, 2, 0}},
		{[]int{14, 1, 1, 1}, []int{3, 2, 1, 0}, []int{4, 2, 1, 0}},
		{[]int{12, 12, 3, 3}, []int{3, 2, 1, 0}, []int{4, 3, 1, 0}},
		{[]int{2, 13, 2, 18, 8}, []int{4, 3, 2, 1, 0}, []int{1, 4, 0, 2, 0}},
		{[]int{2, 5, 42, 4, 32, 20}, []int{5, 4, 3, 2, 1, 0}, []int{0, 5, 3, 1, 2, 0}},
		{[]int{46, 45, 27, 23, 12, 3}, []int{5, 4, 3, 2, 1, 0}, []int{8, 6, 4, 2, 0, 0}},
		{[]int{62, 29, 27, 23, 15, 1}, []int{5, 4, 3, 2, 1, 0}, []int{9, 7, 5, 3, 1, 0}},
		{[]int{62, 61, 59, 55, 47, 31}, []int{5, 4, 3, 2, 1, 0}, []int{10, 8, 6, 4, 2, 0}},
		// Orders that come to the least span, though their own ones do not.
		{[]int{2, 5, 2}, []int{0, 2, 1}, []int{0, 3, 1}},
		{[]int{2, 5, 10, 4}, []int{1, 0, 2, 3}, []int{2, 0, 3, 1}},
		{[]int{4, 8, 9, 6}, []int{2, 0, 1, 3}, []int{2, 1, 0, 3}},
		{[]int{10, 5, 10, 5}, []int{0, 2, 1, 3}, []int{0, 3, 1, 4}},
		{[]int{2, 13, 2, 18, 8}, []int{0, 2, 3, 1, 4}, []int{0, 4, 1, 2, 0}},
		{[]int{58, 53, 10, 5, 3, 3}, []int{0, 2, 4, 5, 1, 3}, []int{0, 5, 1, 4, 2, 3}},
		{[]int{62, 5, 3, 33, 33, 25}, []int{0, 1, 2, 5, 3, 4}, []int{0, 2, 4, 5, 6, 3}},
		// Orders that go farther.
		{[]int{6, 1, 1}, []int{1, 0, 2}, []int{2, 0, 4}},
		{[]int{14, 1, 1, 1}, []int{1, 0, 2, 3}, []int{2, 0, 4, 5}},
		{[]int{8, 8, 8, 7}, []int{0, 1, 3, 2}, []int{0, 1, 5, 3}},
		{[]int{12, 12, 3, 3}, []int{0, 2, 3, 1}, []int{0, 5, 2, 3}},
		{[]int{12, 12, 3, 3}, []int{0, 2, 1, 3}, []int{0, 4, 2, 6}},
		{[]int{2, 5, 10, 20, 8}, []int{0, 1, 4, 3, 2}, []int{0, 2, 5, 3, 0}},
		{[]int{18, 5, 10, 20, 9}, []int{0, 2, 3, 1, 4}, []int{0, 4, 1, 3, 5}},
		{[]int{32, 24, 48, 2, 6, 5}, []int{0, 1, 3, 5, 2, 4}, []int{0, 0, 4, 2, 6, 2}},
		{[]int{62, 1, 1, 1, 1, 1}, []int{1, 0, 2, 3, 4, 5}, []int{2, 0, 4, 5, 6, 7}},
		{[]int{6, 25, 33, 2, 2, 4}, []int{3, 1, 0, 4, 5, 2}, []int{4, 2, 6, 0, 5, 0}},
		{[]int{34, 5, 10, 20, 40, 17}, []int{0, 1, 2, 4, 3, 5}, []int{0, 2, 4, 6, 1, 3}},
		{[]int{46, 45, 27, 23, 12, 3}, []int{4, 0, 5, 1, 2, 3}, []int{1, 5, 7, 9, 0, 3}},
		{[]int{60, 60, 51, 51, 15, 15}, []int{0, 2, 1, 4, 3, 5}, []int{0, 4, 2, 8, 6, 10}},
		{[]int{56, 56, 56, 7, 7, 7}, []int{0, 3, 1, 4, 2, 5}, []int{0, 4, 8, 2, 6, 10}},
		{[]int{62, 29, 27, 23, 15, 1}, []int{5, 0, 1, 2, 3, 4}, []int{2, 4, 6, 8, 10, 0}},
	}
	for _, c := range cases {
		if row := impl.GreedyRow(c.net, c.order); !sameList(row, c.row) {
			t.Errorf("GreedyRow(%v, %v) is %v, not %v", c.net, c.order, row, c.row)
		}
	}
}

// Promise 62.
func TestOtherNetOfTheOtherNetIsTheNet(t *testing.T) {
	both := 0
	eachNet(t, func(net []int, table pairTable) {
		other := impl.OtherNet(net)
		if want := table.other().net(); !sameList(other, want) {
			t.Errorf("OtherNet is %v, not %v", other, want)
		}
		if !impl.NetOk(other) || len(other) != len(net) {
			t.Fatalf("OtherNet is %v, which is no net of as many places", other)
		}
		if impl.WiresOf(net)+impl.WiresOf(other) != len(net)*(len(net)-1)/2 {
			t.Errorf("the net has %d wires, and the other one %d", impl.WiresOf(net), impl.WiresOf(other))
		}
		if again := impl.OtherNet(other); !sameList(again, net) {
			t.Errorf("OtherNet is %v, and of that it is %v", other, again)
		}
		if impl.PartMany(net) != 1 && impl.PartMany(other) != 1 {
			t.Errorf("the net has %d parts, and the other one %d", impl.PartMany(net), impl.PartMany(other))
		}
		if impl.PartMany(net) == 1 && impl.PartMany(other) == 1 {
			both++
		}
	})
	if both == 0 {
		t.Error("no net and its other one are both one part")
	}
}

// checkPaths tells if PathCover is not what one finds by trying all sets of wires.
func checkPaths(t *testing.T, net []int, table pairTable) {
	t.Helper()
	if paths, want := impl.PathCover(net), pathsOf(table); paths != want {
		t.Errorf("PathCover(%v) is %d, not %d", net, paths, want)
	}
}

// Promises 24 and 63: just the paths that one finds by trying; also of each kind with its places called anew.
func TestPathsAreWhatIsFoundByTrying(t *testing.T) {
	eachKindOfNet(t, func(net []int, table pairTable) {
		checkPaths(t, net, table)
		for _, order := range someOrders(len(net)) {
			renamed := table.renamed(order)
			checkPaths(t, renamed.net(), renamed)
		}
	})
}

// Promise 63.
func TestPathsHaveNoMorePlacesThanThereAre(t *testing.T) {
	partsAlone, wiresAlone, more := 0, 0, 0
	eachNet(t, func(net []int, table pairTable) {
		paths := impl.PathCover(net)
		parts := impl.PartMany(net)
		left := len(net) - impl.WiresOf(net)
		if paths < parts || paths < left || paths > len(net) {
			t.Errorf("PathCover is %d of %d parts, with %d places more than wires", paths, parts, left)
		}
		if (paths == len(net)) != (impl.WiresOf(net) == 0) {
			t.Errorf("PathCover is %d of %d wires", paths, impl.WiresOf(net))
		}
		switch {
		case paths > parts:
			more++
		case paths > left:
			partsAlone++
		default:
			wiresAlone++
		}
	})
	if partsAlone == 0 || wiresAlone == 0 || more == 0 {
		t.Errorf("paths are as many as parts, but not as places more than wires, %d times, as both %d times, and more than parts %d times", partsAlone, wiresAlone, more)
	}
}

// Promise 63: with one wire less there are as many paths, or one more.
func TestPathsWithoutAWire(t *testing.T) {
	as, more := 0, 0
	eachNet(t, func(net []int, table pairTable) {
		paths := impl.PathCover(net)
		for _, wire := range table.wires() {
			switch impl.PathCover(wireless(net, wire[0], wire[1])) - paths {
			case 0:
				as++
			case 1:
				more++
			default:
				t.Errorf("PathCover is %d, and %d without the wire %v", paths, impl.PathCover(wireless(net, wire[0], wire[1])), wire)
			}
		}
	})
	if as == 0 || more == 0 {
		t.Errorf("without a wire there are as many paths %d times, and one more %d times", as, more)
	}
}

// Promise 25: one place of an order is changed, so that it is none any more: to another one of it, below 0, to the number of places, and to others too great.
func TestOrdersOfPlacesWithOneChanged(t *testing.T) {
	most := int(^uint(0) >> 1)
	eachOrder(t, func(net []int, table pairTable, order []int) {
		places := len(net)
		// Of six places there are many orders: so just those are taken that begin at one of both ends.
		if places == mostPlaces && order[0] != 0 && order[0] != places-1 {
			return
		}
		for at := range order {
			for _, place := range []int{-1, places, order[(at+1)%places], places + 1} {
				if place == order[at] {
					continue
				}
				changed := append([]int{}, order...)
				changed[at] = place
				checkNoGreedy(t, net, changed)
			}
		}
	})
	eachKindOfNet(t, func(net []int, table pairTable) {
		for at := range net {
			for _, place := range []int{-most - 1, -most, -1 << 32, -64, -31, -30, -6, -5, 6, 30, 31, 63, 64, 1 << 32, 1 << 40, most - 1, most} {
				changed := ownOrder(len(net))
				changed[at] = place
				checkNoGreedy(t, net, changed)
			}
		}
	})
}

// Promise 25: of all lists of numbers around the places just the orders are taken.
func TestListsOfPlacesAreOrdersOrNot(t *testing.T) {
	eachNetUpTo(t, 4, func(net []int, table pairTable) {
		eachRow(len(net), -2, len(net)+1, func(list []int) {
			if !isOrder(len(net), list) {
				checkNoGreedy(t, net, list)
			} else if row, want := impl.GreedyRow(net, list), greedyOf(table, list); !sameList(row, want) {
				t.Errorf("GreedyRow(%v, %v) is %v, not %v", net, list, row, want)
			}
		})
	})
}

// Promises 23 and 25: rows and orders of more or fewer numbers than places, and empty ones; also those that would be right of nets of as many places.
func TestChannelsOfAnotherLength(t *testing.T) {
	eachKindOfNet(t, func(net []int, table pairTable) {
		for _, list := range [][]int{nil, {}, make([]int, 1000), ownOrder(70)} {
			checkNoChannels(t, net, list)
			checkNoGreedy(t, net, list)
		}
		for places := 1; places <= mostPlaces+2; places++ {
			if places == len(net) {
				continue
			}
			// Numbers three apart are channels of each net of as many places.
			var row []int
			for place := 0; place < places; place++ {
				row = append(row, 3*place)
			}
			checkNoChannels(t, net, row)
			checkNoChannels(t, net, make([]int, places))
			checkNoGreedy(t, net, ownOrder(places))
			checkNoGreedy(t, net, turnedOf(ownOrder(places), places-1))
			checkNoGreedy(t, net, make([]int, places))
		}
		first := impl.ChannelFirst(net)
		checkNoChannels(t, net, first[1:])
		checkNoChannels(t, net, first[:len(first)-1])
		checkNoChannels(t, net, append([]int{30}, first...))
		checkNoChannels(t, net, append(first, 30))
	})
}

// Promise 23: numbers below 0 or above MostLabel are no channels, not even of lone places.
func TestChannelsOutOfRange(t *testing.T) {
	most := int(^uint(0) >> 1)
	eachNet(t, func(net []int, table pairTable) {
		for place := range net {
			for _, number := range []int{-most - 1, -most, -1 << 32, -2, -1, mostLabel + 1, mostLabel + 2, 64, 1 << 32, most - 1, most} {
				row := []int{0, 4, 8, 12, 16, 20}[:len(net)]
				row[place] = number
				checkNoChannels(t, net, row)
			}
		}
	})
}

// Promises 23 to 25 and 61 to 63: what is no net has the fixed result of each function.
func TestNoNetHasChannels(t *testing.T) {
	for _, net := range badNets() {
		if first := impl.ChannelFirst(net); len(first) != 0 {
			t.Errorf("ChannelFirst(%v) is %v", net, first)
		}
		if span := impl.FewestSpan(net); span != -1 {
			t.Errorf("FewestSpan(%v) is %d", net, span)
		}
		if other := impl.OtherNet(net); len(other) != 0 {
			t.Errorf("OtherNet(%v) is %v", net, other)
		}
		if paths := impl.PathCover(net); paths != -1 {
			t.Errorf("PathCover(%v) is %d", net, paths)
		}
		for places := 0; places <= mostPlaces+2; places++ {
			var row []int
			for place := 0; place < places; place++ {
				row = append(row, 3*place)
			}
			checkNoChannels(t, net, row)
			checkNoChannels(t, net, make([]int, places))
			checkNoGreedy(t, net, ownOrder(places))
			checkNoGreedy(t, net, turnedOf(ownOrder(places), places-1))
			checkNoGreedy(t, net, make([]int, places))
		}
		checkNoChannels(t, net, make([]int, len(net)))
		checkNoGreedy(t, net, ownOrder(len(net)))
	}
}

// The examples that chapter 10 answers.
func TestExamplesOfChannels(t *testing.T) {
	path := []int{2, 5, 10, 4}
	star := []int{14, 1, 1, 1}
	if span := impl.FewestSpan(path); span != 3 {
		t.Errorf("span 4 0-1 1-2 2-3: %d", span)
	}
	if span := impl.FewestSpan(star); span != 4 {
		t.Errorf("span 4 0-1 0-2 0-3: %d", span)
	}
	if paths := impl.PathCover(star); paths != 2 {
		t.Errorf("paths 4 0-1 0-2 0-3: %d", paths)
	}
}
