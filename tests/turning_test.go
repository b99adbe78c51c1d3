package tests

import (
	"testing"

	"loop.example/labelnets/impl"
)

// The table of constants.
func TestMostRing(t *testing.T) {
	if impl.MostRing != mostRing {
		t.Errorf("MostRing is %d", impl.MostRing)
	}
}

// noRings returns how many numbers no ring has.
func noRings() []int {
	most := int(^uint(0) >> 1)
	return []int{-most - 1, -most, -1 << 32, -mostRing, -7, -2, -1, 0, mostRing + 1, mostRing + 2, 2*mostRing + 1, 64, 1 << 32, 1 << 40, most - 1, most}
}

// spreadRowsOf returns rows of a net of so many places, of unlike numbers: near to each other, at both ends of the greatest ring, in pairs just opposite on even rings, and one with all differences unlike.
func spreadRowsOf(places int) [][]int {
	whole := [][]int{
		{0, 1, 2, 3, 4, 5},
		{5, 2, 4, 0, 3, 1},
		{0, 30, 1, 29, 2, 28},
		{0, 5, 1, 6, 2, 7},
		{3, 9, 27, 19, 26, 16},
		{20, 0, 12, 1, 7, 3},
		{1, 5, 11, 24, 25, 27},
	}
	rows := make([][]int, len(whole))
	for at := range whole {
		rows[at] = append([]int{}, whole[at][:places]...)
	}
	return rows
}

// ringsOf returns rings that a row of a net of so many wires is on: the least one and the next ones, the greatest one, those around twice the greatest number, and around twice the wires.
func ringsOf(row []int, wires int) []int {
	first := greatest(row) + 1
	told := map[int]bool{}
	var rings []int
	for _, ring := range []int{first, first + 1, first + 2, 2*first - 2, 2*first - 1, 2 * first, 2 * wires, 2*wires + 1, 2*wires + 2, mostRing - 1, mostRing} {
		if ring >= first && ring <= mostRing && !told[ring] {
			told[ring] = true
			rings = append(rings, ring)
		}
	}
	return rings
}

// eachRowOnRings calls check with every net of less than mostPlaces places, and one of each kind of mostPlaces places, its table, rows of it of all kinds, its first and its last graceful one too, and rings of all kinds.
func eachRowOnRings(t *testing.T, check func(net []int, table pairTable, row []int, ring int)) {
	t.Helper()
	eachKindOfNet(t, func(net []int, table pairTable) {
		wires := len(table.wires())
		rows := spreadRowsOf(len(net))
		if first, ok := impl.GracefulFirst(net); ok {
			rows = append(rows, first, turnedOf(first, wires))
		}
		for _, row := range rows {
			for _, ring := range ringsOf(row, wires) {
				check(net, table, row, ring)
				if t.Failed() {
					t.Fatalf("at the row %v on a ring of %d", row, ring)
				}
			}
		}
	})
}

// checkRound tells if the functions do not answer a row and a ring as the document names it, whatever they are.
func checkRound(t *testing.T, net []int, table pairTable, row []int, ring int) {
	t.Helper()
	if !isOnRing(len(net), row, ring) {
		checkOffRing(t, net, row, ring)
		return
	}
	for _, by := range []int{-1, 0, 1, ring / 2, ring - 1, ring, ring + 1} {
		var want []int
		if by >= 0 && by < ring {
			want = steppedOf(row, ring, by)
		}
		if got := impl.TurnedBy(net, row, ring, by); !sameList(got, want) {
			t.Errorf("TurnedBy(%v, %v, %d, %d) is %v, not %v", net, row, ring, by, got, want)
		}
	}
	counts := pairCountsOf(table, row, ring)
	if got := impl.PairCounts(net, row, ring); !sameList(got, counts) {
		t.Errorf("PairCounts(%v, %v, %d) is %v, not %v", net, row, ring, got, counts)
	}
	if want := areOnes(counts); impl.CoversOk(net, row, ring) != want {
		t.Errorf("CoversOk(%v, %v, %d) is %v", net, row, ring, !want)
	}
	if got := impl.RoundDifferences(net, row, ring); !sameList(got, roundOf(table, row, ring)) {
		t.Errorf("RoundDifferences(%v, %v, %d) is %v, not %v", net, row, ring, got, roundOf(table, row, ring))
	}
}

// checkOffRing tells where what is no row on a ring has not the fixed results.
func checkOffRing(t *testing.T, net []int, row []int, ring int) {
	t.Helper()
	for _, by := range []int{-1, 0, 1, ring - 1, ring} {
		if got := impl.TurnedBy(net, row, ring, by); len(got) != 0 {
			t.Errorf("TurnedBy(%v, %v, %d, %d) is %v", net, row, ring, by, got)
		}
	}
	if got := impl.PairCounts(net, row, ring); len(got) != 0 {
		t.Errorf("PairCounts(%v, %v, %d) is %v", net, row, ring, got)
	}
	if impl.CoversOk(net, row, ring) {
		t.Errorf("CoversOk(%v, %v, %d)", net, row, ring)
	}
	if got := impl.RoundDifferences(net, row, ring); len(got) != 0 {
		t.Errorf("RoundDifferences(%v, %v, %d) is %v", net, row, ring, got)
	}
}

// Promise 12.
func TestPairsAsFarFromEachOtherComeAsOften(t *testing.T) {
	eachRowOnRings(t, func(net []int, table pairTable, row []int, ring int) {
		counts := impl.PairCounts(net, row, ring)
		if len(counts) != ring*(ring-1)/2 {
			t.Fatalf("%d numbers", len(counts))
		}
		together := 0
		for _, many := range counts {
			together += many
		}
		if together != impl.WiresOf(net)*ring {
			t.Errorf("together they are %d", together)
		}
		// wiresAt says how many wires are as far from each other.
		wiresAt := make([]int, ring)
		for _, far := range impl.RoundDifferences(net, row, ring) {
			wiresAt[far]++
		}
		at := 0
		for lesser := 0; lesser < ring; lesser++ {
			for greater := lesser + 1; greater < ring; greater++ {
				far := min(stepsOn(ring, lesser, greater), stepsOn(ring, greater, lesser))
				want := wiresAt[far]
				if far+far == ring {
					want *= 2
				}
				if counts[at] != want {
					t.Errorf("%d and %d come %d times, not %d times", lesser, greater, counts[at], want)
				}
				at++
			}
		}
	})
}

// Promises 12, 13, 52 and 53: the same as one finds without turning a row.
func TestRowsOnRings(t *testing.T) {
	eachRowOnRings(t, func(net []int, table pairTable, row []int, ring int) {
		checkRound(t, net, table, row, ring)
	})
}

// Promise 12: the same as one finds by turning a row step by step, and looking for each pair among its wires.
func TestPairCountsAreThoseFoundByTurning(t *testing.T) {
	eachSmallNet(t, func(net []int) {
		table := tableOfNet(net)
		for _, row := range [][]int{{0, 1, 2, 3}, {3, 0, 2, 1}, {0, 3, 1, 2}, {1, 5, 0, 4}, {6, 2, 5, 0}} {
			for ring := 7; ring <= 12; ring++ {
				row := row[:len(net)]
				var want []int
				for lesser := 0; lesser < ring; lesser++ {
					for greater := lesser + 1; greater < ring; greater++ {
						many := 0
						for by := 0; by < ring; by++ {
							if numbersAreNeighbours(table, steppedOf(row, ring, by), lesser, greater) {
								many++
							}
						}
						want = append(want, many)
					}
				}
				if got := impl.PairCounts(net, row, ring); !sameList(got, want) {
					t.Errorf("PairCounts(%v, %v, %d) is %v, not %v", net, row, ring, got, want)
				}
			}
		}
	})
}

// Promises 12, 13, 52 and 53: all rows of numbers around those of small rings; just those are on a ring that the document names.
func TestAllRowsOnSmallRings(t *testing.T) {
	for at, most := range []int{12, 9, 8, 7} {
		places := at + 1
		for _, table := range kindsOf(places) {
			net := table.net()
			for ring := 0; ring <= most; ring++ {
				eachRow(places, -1, ring+1, func(row []int) {
					checkRound(t, net, table, row, ring)
				})
			}
		}
	}
}

// Promises 12, 13, 52 and 53: all rings up to some more than the greatest one, and also those that one row is not on.
func TestRowsOnAllRings(t *testing.T) {
	eachSmallNet(t, func(net []int) {
		table := tableOfNet(net)
		for _, row := range spreadRowsOf(len(net)) {
			for ring := -2; ring <= mostRing+3; ring++ {
				checkRound(t, net, table, row, ring)
			}
		}
	})
}

// ones returns a list of so many numbers 1.
func ones(many int) []int {
	list := make([]int, many)
	for at := range list {
		list[at] = 1
	}
	return list
}

// Promise 12, told by numbers.
func TestPairCountsByNumbers(t *testing.T) {
	path := []int{2, 5, 10, 4}
	short := []int{2, 5, 2}
	wire := []int{2, 1}
	cases := []struct {
		net    []int
		row    []int
		ring   int
		counts []int
	}{
		// One place, and places without wires: no pair comes, and a ring of one number has none.
		{[]int{0}, []int{0}, 1, nil},
		{[]int{0}, []int{0}, 2, []int{0}},
		{[]int{0}, []int{1}, 2, []int{0}},
		{[]int{0}, []int{1}, 3, []int{0, 0, 0}},
		{[]int{0, 0}, []int{0, 1}, 2, []int{0}},
		{[]int{0, 0}, []int{2, 0}, 3, []int{0, 0, 0}},
		{[]int{0, 0, 0, 0, 0, 0}, []int{5, 4, 3, 2, 1, 0}, 6, make([]int, 15)},
		// One wire, alone and beside a place without a neighbour: on even rings its ends can be just opposite.
		{wire, []int{0, 1}, 2, []int{2}},
		{wire, []int{1, 0}, 2, []int{2}},
		{wire, []int{0, 1}, 3, []int{1, 1, 1}},
		{wire, []int{0, 2}, 3, []int{1, 1, 1}},
		{wire, []int{2, 1}, 3, []int{1, 1, 1}},
		{wire, []int{0, 1}, 4, []int{1, 0, 1, 1, 0, 1}},
		{wire, []int{0, 3}, 4, []int{1, 0, 1, 1, 0, 1}},
		{wire, []int{0, 2}, 4, []int{0, 2, 0, 0, 2, 0}},
		{wire, []int{3, 1}, 4, []int{0, 2, 0, 0, 2, 0}},
		{wire, []int{0, 2}, 5, []int{0, 1, 1, 0, 0, 1, 1, 0, 1, 0}},
		{wire, []int{4, 0}, 5, []int{1, 0, 0, 1, 1, 0, 0, 1, 0, 1}},
		{wire, []int{0, 3}, 6, []int{0, 0, 2, 0, 0, 0, 0, 2, 0, 0, 0, 2, 0, 0, 0}},
		{wire, []int{2, 4}, 6, []int{0, 1, 0, 1, 0, 0, 1, 0, 1, 0, 1, 0, 0, 1, 0}},
		{[]int{2, 1, 0}, []int{0, 1, 2}, 3, []int{1, 1, 1}},
		{[]int{2, 1, 0}, []int{0, 3, 1}, 4, []int{1, 0, 1, 1, 0, 1}},
		// Paths, graceful or not, on rings that are too small, right and too great.
		{short, []int{0, 2, 1}, 3, []int{2, 2, 2}},
		{short, []int{0, 2, 1}, 4, []int{1, 2, 1, 1, 2, 1}},
		{short, []int{0, 1, 3}, 4, []int{1, 2, 1, 1, 2, 1}},
		{short, []int{0, 1, 2}, 4, []int{2, 0, 2, 2, 0, 2}},
		{short, []int{0, 2, 1}, 5, ones(10)},
		{short, []int{1, 0, 3}, 5, ones(10)},
		{short, []int{0, 1, 2}, 5, []int{2, 0, 0, 2, 2, 0, 0, 2, 0, 2}},
		{short, []int{0, 3, 1}, 6, []int{0, 1, 2, 1, 0, 0, 1, 2, 1, 0, 1, 2, 0, 1, 0}},
		{short, []int{0, 3, 4}, 6, []int{1, 0, 2, 0, 1, 1, 0, 2, 0, 1, 0, 2, 1, 0, 1}},
		{path, []int{0, 3, 1, 2}, 4, []int{2, 2, 2, 2, 2, 2}},
		{path, []int{0, 3, 1, 2}, 5, []int{1, 2, 2, 1, 1, 2, 2, 1, 2, 1}},
		{path, []int{0, 3, 1, 2}, 6, []int{1, 1, 2, 1, 1, 1, 1, 2, 1, 1, 1, 2, 1, 1, 1}},
		{path, []int{0, 3, 1, 2}, 7, ones(21)},
		{path, []int{0, 3, 1, 2}, 8, []int{1, 1, 1, 0, 1, 1, 1, 1, 1, 1, 0, 1, 1, 1, 1, 1, 0, 1, 1, 1, 1, 0, 1, 1, 1, 1, 1, 1}},
		{path, []int{0, 1, 2, 3}, 7, []int{3, 0, 0, 0, 0, 3, 3, 0, 0, 0, 0, 3, 0, 0, 0, 3, 0, 0, 3, 0, 3}},
		{path, []int{0, 6, 1, 3}, 7, []int{1, 2, 0, 0, 2, 1, 1, 2, 0, 0, 2, 1, 2, 0, 0, 1, 2, 0, 1, 2, 1}},
		// A ring of three places, a star, and two parts.
		{[]int{6, 5, 3}, []int{0, 1, 2}, 3, []int{3, 3, 3}},
		{[]int{6, 5, 3}, []int{0, 1, 3}, 6, []int{1, 1, 2, 1, 1, 1, 1, 2, 1, 1, 1, 2, 1, 1, 1}},
		{[]int{14, 1, 1, 1}, []int{0, 6, 1, 3}, 7, []int{2, 0, 1, 1, 0, 2, 2, 0, 1, 1, 0, 2, 0, 1, 1, 2, 0, 1, 2, 0, 2}},
		{[]int{2, 1, 8, 4}, []int{0, 1, 3, 2}, 5, []int{2, 0, 0, 2, 2, 0, 0, 2, 0, 2}},
		{[]int{2, 1, 8, 4}, []int{0, 2, 1, 4}, 6, []int{0, 1, 2, 1, 0, 0, 1, 2, 1, 0, 1, 2, 0, 1, 0}},
		// All pairs of six places on the greatest ring.
		{[]int{62, 61, 59, 55, 47, 31}, []int{1, 5, 11, 24, 25, 27}, 31, ones(465)},
	}
	for _, c := range cases {
		if got := impl.PairCounts(c.net, c.row, c.ring); !sameList(got, c.counts) {
			t.Errorf("PairCounts(%v, %v, %d) is %v, not %v", c.net, c.row, c.ring, got, c.counts)
		}
	}
}

// Promise 13.
func TestGracefulRowTurnedRoundMakesAllPairs(t *testing.T) {
	eachGracefulRow(t, func(net []int, table pairTable, row []int) {
		ring := 2*impl.WiresOf(net) + 1
		if !impl.CoversOk(net, row, ring) {
			t.Errorf("CoversOk is false on the ring of %d", ring)
		}
	})
}

// Promise 13: also if the numbers are not turned, but moved on the ring, or put on it the other way round.
func TestGracefulRowsPutElsewhereMakeAllPairs(t *testing.T) {
	eachKindOfNet(t, func(net []int, table pairTable) {
		rows := gracefulRowsOf(table)
		ring := 2*len(table.wires()) + 1
		for at := 0; at < len(rows); at += 1 + len(rows)/4 {
			for by := 0; by < ring; by++ {
				stepped := steppedOf(rows[at], ring, by)
				if !impl.CoversOk(net, stepped, ring) || !impl.CoversOk(net, turnedOf(stepped, ring-1), ring) {
					t.Errorf("CoversOk is false of %v on the ring of %d, or turned", stepped, ring)
				}
			}
		}
	})
}

// Promise 13: no row covers a ring of another size, be it graceful or not.
func TestNoRowCoversARingOfAnotherSize(t *testing.T) {
	eachRowOnRings(t, func(net []int, table pairTable, row []int, ring int) {
		if ring != 2*impl.WiresOf(net)+1 && impl.CoversOk(net, row, ring) {
			t.Errorf("CoversOk of %d wires", impl.WiresOf(net))
		}
	})
	eachKindOfNet(t, func(net []int, table pairTable) {
		row, ok := impl.GracefulFirst(net)
		for ring := -1; ok && ring <= mostRing+1; ring++ {
			if want := ring == 2*len(table.wires())+1; impl.CoversOk(net, row, ring) != want {
				t.Errorf("CoversOk of %v on a ring of %d is %v", row, ring, !want)
			}
		}
	})
}

// Promise 13: of all rows on a ring of one number more than twice the wires just those cover it whose wires are 1, 2 and so on from each other, each once.
func TestAllRowsThatCoverTheRing(t *testing.T) {
	covering, others := 0, 0
	for places := 1; places <= 4; places++ {
		for _, table := range kindsOf(places) {
			net := table.net()
			ring := 2*len(table.wires()) + 1
			eachUnlikeRow(places, ring-1, func(row []int) {
				farOnce := true
				for far := 1; far < ring-far; far++ {
					many := 0
					for _, one := range roundOf(table, row, ring) {
						if one == far {
							many++
						}
					}
					farOnce = farOnce && many == 1
				}
				if impl.CoversOk(net, row, ring) != farOnce {
					t.Errorf("CoversOk(%v, %v, %d) is %v", net, row, ring, !farOnce)
				}
				if farOnce && !isGraceful(table.wires(), row) {
					covering++
				}
				if !farOnce {
					others++
				}
			})
		}
	}
	if covering == 0 || others == 0 {
		t.Errorf("%d rows that are not graceful cover the ring, and %d rows do not", covering, others)
	}
}

// Promise 13, told by numbers.
func TestCoversOkByNumbers(t *testing.T) {
	path := []int{2, 5, 10, 4}
	wire := []int{2, 1}
	four := []int{14, 13, 11, 7}
	five := []int{30, 29, 27, 23, 15}
	six := []int{62, 61, 59, 55, 47, 31}
	book := []int{62, 61, 3, 3, 3, 3}
	cases := []struct {
		net  []int
		row  []int
		ring int
		want bool
	}{
		// One place covers the ring without a pair, and no other one.
		{[]int{0}, []int{0}, 1, true},
		{[]int{0}, []int{0}, 0, false},
		{[]int{0}, []int{0}, -1, false},
		{[]int{0}, []int{1}, 1, false},
		{[]int{0}, []int{-1}, 1, false},
		{[]int{0}, []int{0}, 2, false},
		{[]int{0}, []int{1}, 2, false},
		{[]int{0}, []int{0}, 3, false},
		{[]int{0}, []int{30}, 31, false},
		{[]int{0}, nil, 1, false},
		{[]int{0}, []int{0, 0}, 1, false},
		{nil, nil, 1, false},
		{[]int{0, 0}, []int{0, 0}, 1, false},
		{[]int{0, 0}, []int{0, 1}, 1, false},
		{[]int{0, 0}, []int{0, 1}, 2, false},
		{[]int{0, 0}, []int{0, 1}, 3, false},
		// One wire, whatever its two numbers are.
		{wire, []int{0, 1}, 1, false},
		{wire, []int{0, 1}, 2, false},
		{wire, []int{0, 1}, 3, true},
		{wire, []int{0, 2}, 3, true},
		{wire, []int{2, 1}, 3, true},
		{wire, []int{0, 3}, 3, false},
		{wire, []int{1, 1}, 3, false},
		{wire, []int{0, 1}, 4, false},
		{wire, []int{0, 2}, 4, false},
		{[]int{2, 1, 0}, []int{0, 1, 2}, 3, true},
		{[]int{2, 1, 0}, []int{0, 1, 3}, 3, false},
		// The graceful row of a path on the ring of seven numbers, and on others.
		{path, []int{0, 3, 1, 2}, 3, false},
		{path, []int{0, 3, 1, 2}, 4, false},
		{path, []int{0, 3, 1, 2}, 6, false},
		{path, []int{0, 3, 1, 2}, 7, true},
		{path, []int{0, 3, 1, 2}, 8, false},
		{path, []int{0, 3, 1, 2}, 31, false},
		{path, []int{0, 3, 1, 2}, 32, false},
		// Rows that are not graceful, of which some cover the ring all the same.
		{path, []int{0, 1, 2, 3}, 7, false},
		{path, []int{0, 6, 1, 3}, 7, false},
		{path, []int{0, 6, 1, 4}, 7, true},
		{path, []int{0, 1, 3, 6}, 7, true},
		{path, []int{0, 1, 3, 7}, 7, false},
		{path, []int{1, 4, 2, 3}, 7, true},
		{[]int{2, 5, 2}, []int{1, 0, 3}, 5, true},
		{[]int{2, 5, 2}, []int{0, 1, 2}, 5, false},
		{[]int{6, 5, 3}, []int{0, 1, 3}, 7, true},
		{[]int{6, 5, 3}, []int{0, 1, 3}, 6, false},
		{[]int{6, 5, 3}, []int{0, 1, 2}, 3, false},
		{[]int{14, 1, 1, 1}, []int{0, 1, 2, 3}, 7, true},
		{[]int{14, 1, 1, 1}, []int{0, 6, 2, 3}, 7, true},
		{[]int{14, 1, 1, 1}, []int{0, 6, 1, 3}, 7, false},
		// Two wires apart have no graceful row, but cover the ring of five numbers.
		{[]int{2, 1, 8, 4}, []int{0, 1, 2, 4}, 5, true},
		{[]int{2, 1, 8, 4}, []int{0, 1, 4, 2}, 5, true},
		{[]int{2, 1, 8, 4}, []int{0, 1, 3, 2}, 5, false},
		// All pairs of four, five and six places, of which just four have a graceful row: up to the greatest ring.
		{four, []int{0, 1, 4, 6}, 13, true},
		{four, []int{0, 1, 3, 9}, 13, true},
		{four, []int{0, 1, 3, 6}, 13, false},
		{five, []int{3, 6, 7, 12, 14}, 20, false},
		{five, []int{3, 6, 7, 12, 14}, 21, true},
		{five, []int{3, 6, 7, 12, 14}, 22, false},
		{five, []int{0, 1, 4, 14, 16}, 21, true},
		{six, []int{1, 5, 11, 24, 25, 27}, 30, false},
		{six, []int{1, 5, 11, 24, 25, 27}, 31, true},
		{six, []int{1, 5, 11, 24, 25, 27}, 32, false},
		{six, []int{0, 1, 3, 7, 12, 20}, 31, false},
		{book, []int{0, 1, 3, 5, 7, 9}, 18, false},
		{book, []int{0, 1, 3, 5, 7, 9}, 19, true},
		{book, []int{0, 1, 3, 5, 7, 9}, 20, false},
	}
	for _, c := range cases {
		if impl.CoversOk(c.net, c.row, c.ring) != c.want {
			t.Errorf("CoversOk(%v, %v, %d) is %v", c.net, c.row, c.ring, !c.want)
		}
	}
}

// Promise 52.
func TestTurnedAllRoundItIsTheRow(t *testing.T) {
	eachRowOnRings(t, func(net []int, table pairTable, row []int, ring int) {
		round := impl.RoundDifferences(net, row, ring)
		for by := 0; by < ring; by++ {
			turned := impl.TurnedBy(net, row, ring, by)
			if len(turned) != len(row) {
				t.Fatalf("turned by %d: %v", by, turned)
			}
			if by == 0 && !sameList(turned, row) {
				t.Errorf("turned by 0: %v", turned)
			}
			if by > 0 && !sameList(impl.TurnedBy(net, turned, ring, ring-by), row) {
				t.Errorf("turned by %d and by what is left: %v", by, impl.TurnedBy(net, turned, ring, ring-by))
			}
			if got := impl.RoundDifferences(net, turned, ring); !sameList(got, round) {
				t.Errorf("turned by %d: the ends of wires are %v from each other, not %v", by, got, round)
			}
		}
		for _, by := range []int{-1, -ring, ring, ring + 1, 2 * ring} {
			if turned := impl.TurnedBy(net, row, ring, by); len(turned) != 0 {
				t.Errorf("turned by %d: %v", by, turned)
			}
		}
	})
}

// Promise 52: just the numbers of the ring turn a row, each by as many steps.
func TestTurnedRoundByAllNumbers(t *testing.T) {
	for places := 1; places <= mostPlaces; places++ {
		net := impl.ShapeNet(0, places)
		for _, row := range spreadRowsOf(places) {
			for ring := greatest(row) + 1; ring <= mostRing; ring++ {
				for _, by := range numbersAround() {
					var want []int
					if by >= 0 && by < ring {
						want = steppedOf(row, ring, by)
					}
					if got := impl.TurnedBy(net, row, ring, by); !sameList(got, want) {
						t.Errorf("TurnedBy(%v, %v, %d, %d) is %v, not %v", net, row, ring, by, got, want)
					}
				}
			}
		}
	}
}

// Promise 52, told by numbers.
func TestTurnedRoundByNumbers(t *testing.T) {
	path := []int{2, 5, 10, 4}
	row := []int{0, 3, 1, 2}
	cases := []struct {
		net    []int
		row    []int
		ring   int
		by     int
		turned []int
	}{
		// The ring of one number, and its neighbours.
		{[]int{0}, []int{0}, 1, 0, []int{0}},
		{[]int{0}, []int{0}, 1, 1, nil},
		{[]int{0}, []int{0}, 1, -1, nil},
		{[]int{0}, []int{1}, 1, 0, nil},
		{[]int{0}, []int{0}, 0, 0, nil},
		{[]int{0}, []int{0}, -1, 0, nil},
		{[]int{0}, []int{0}, -1, -2, nil},
		{[]int{0}, []int{0}, 2, 0, []int{0}},
		{[]int{0}, []int{0}, 2, 1, []int{1}},
		{[]int{0}, []int{1}, 2, 1, []int{0}},
		{[]int{0}, []int{1}, 2, 2, nil},
		// The greatest ring, and one more.
		{[]int{0}, []int{0}, 31, 30, []int{30}},
		{[]int{0}, []int{30}, 31, 0, []int{30}},
		{[]int{0}, []int{30}, 31, 1, []int{0}},
		{[]int{0}, []int{30}, 31, 30, []int{29}},
		{[]int{0}, []int{0}, 31, 31, nil},
		{[]int{0}, []int{30}, 30, 0, nil},
		{[]int{0}, []int{31}, 31, 0, nil},
		{[]int{0}, []int{0}, 32, 0, nil},
		{[]int{0}, []int{0}, 32, 31, nil},
		{[]int{0}, []int{31}, 32, 0, nil},
		// Places without wires.
		{[]int{0, 0}, []int{0, 1}, 2, 1, []int{1, 0}},
		{[]int{0, 0}, []int{1, 1}, 2, 1, nil},
		{[]int{0, 0}, []int{0, 0}, 1, 0, nil},
		{[]int{0, 0, 0, 0, 0, 0}, []int{5, 4, 3, 2, 1, 0}, 6, 5, []int{4, 3, 2, 1, 0, 5}},
		// One wire.
		{[]int{2, 1}, []int{0, 1}, 1, 0, nil},
		{[]int{2, 1}, []int{0, 1}, 2, 0, []int{0, 1}},
		{[]int{2, 1}, []int{0, 1}, 2, 1, []int{1, 0}},
		{[]int{2, 1}, []int{0, 1}, 3, 2, []int{2, 0}},
		// A path on the least ring that it is on, on one of fewer numbers, and on others.
		{path, row, 3, 0, nil},
		{path, row, 4, 0, []int{0, 3, 1, 2}},
		{path, row, 4, 1, []int{1, 0, 2, 3}},
		{path, row, 4, 3, []int{3, 2, 0, 1}},
		{path, row, 4, 4, nil},
		{path, row, 7, 0, []int{0, 3, 1, 2}},
		{path, row, 7, 3, []int{3, 6, 4, 5}},
		{path, row, 7, 4, []int{4, 0, 5, 6}},
		{path, row, 7, 5, []int{5, 1, 6, 0}},
		{path, row, 7, 6, []int{6, 2, 0, 1}},
		{path, row, 7, 7, nil},
		{path, row, 7, 8, nil},
		{path, row, 7, -1, nil},
		{path, row, 7, -7, nil},
		{path, row, 31, 28, []int{28, 0, 29, 30}},
		{path, row, 31, 31, nil},
		{path, row, 32, 1, nil},
		// Rows that are not graceful; with a number twice, behind the ring, and below it.
		{path, []int{6, 0, 5, 1}, 7, 2, []int{1, 2, 0, 3}},
		{path, []int{6, 0, 5, 6}, 7, 2, nil},
		{path, []int{6, 0, 5, 0}, 7, 0, nil},
		{path, []int{7, 0, 5, 1}, 7, 2, nil},
		{path, []int{6, 0, 5, 7}, 7, 2, nil},
		{path, []int{6, 0, 5, -1}, 7, 2, nil},
		{path, []int{-7, 0, 5, 1}, 7, 2, nil},
		{path, []int{6, 0, 5}, 7, 2, nil},
		{path, []int{6, 0, 5, 1, 2}, 7, 2, nil},
		{path, nil, 7, 2, nil},
		{[]int{2, 5, 10}, []int{6, 0, 5}, 7, 2, nil},
		{nil, nil, 7, 2, nil},
	}
	for _, c := range cases {
		if got := impl.TurnedBy(c.net, c.row, c.ring, c.by); !sameList(got, c.turned) {
			t.Errorf("TurnedBy(%v, %v, %d, %d) is %v, not %v", c.net, c.row, c.ring, c.by, got, c.turned)
		}
	}
}

// Promise 53.
func TestWayRoundIsAtMostHalf(t *testing.T) {
	eachRowOnRings(t, func(net []int, table pairTable, row []int, ring int) {
		round := impl.RoundDifferences(net, row, ring)
		if len(round) != impl.WiresOf(net) {
			t.Fatalf("RoundDifferences is %v", round)
		}
		for _, far := range round {
			if far < 1 || far+far > ring {
				t.Errorf("RoundDifferences is %v", round)
			}
		}
		if ring > 2*greatest(row) && !sameList(round, impl.Differences(net, row)) {
			t.Errorf("RoundDifferences is %v, not %v", round, impl.Differences(net, row))
		}
	})
}

// Promise 53, told by numbers.
func TestRoundDifferencesByNumbers(t *testing.T) {
	path := []int{2, 5, 10, 4}
	cases := []struct {
		net   []int
		row   []int
		ring  int
		round []int
	}{
		{[]int{0}, []int{0}, 1, nil},
		{[]int{0}, []int{30}, 31, nil},
		{[]int{0, 0, 0}, []int{0, 1, 2}, 3, nil},
		{[]int{2, 1}, []int{0, 1}, 1, nil},
		{[]int{2, 1}, []int{0, 1}, 2, []int{1}},
		{[]int{2, 1}, []int{0, 2}, 3, []int{1}},
		{[]int{2, 1}, []int{0, 2}, 4, []int{2}},
		{[]int{2, 1}, []int{0, 3}, 4, []int{1}},
		{[]int{2, 1}, []int{3, 0}, 5, []int{2}},
		{[]int{2, 1}, []int{3, 0}, 6, []int{3}},
		{[]int{2, 1}, []int{3, 0}, 7, []int{3}},
		{[]int{2, 1}, []int{0, 30}, 31, []int{1}},
		{[]int{2, 1}, []int{30, 15}, 31, []int{15}},
		{[]int{2, 1}, []int{30, 14}, 31, []int{15}},
		{[]int{2, 1}, []int{0, 15}, 30, []int{15}},
		{[]int{2, 1}, []int{0, 16}, 30, []int{14}},
		{[]int{2, 1}, []int{0, 30}, 30, nil},
		{[]int{2, 1}, []int{0, 30}, 32, nil},
		{[]int{2, 1, 0}, []int{0, 4, 2}, 5, []int{1}},
		{path, []int{0, 3, 1, 2}, 3, nil},
		{path, []int{0, 3, 1, 2}, 4, []int{1, 2, 1}},
		{path, []int{0, 3, 1, 2}, 5, []int{2, 2, 1}},
		{path, []int{0, 3, 1, 2}, 6, []int{3, 2, 1}},
		{path, []int{0, 3, 1, 2}, 7, []int{3, 2, 1}},
		{path, []int{0, 6, 1, 3}, 7, []int{1, 2, 2}},
		{path, []int{0, 6, 1, 3}, 6, nil},
		{path, []int{0, 6, 1, 6}, 7, nil},
		{[]int{6, 5, 3}, []int{0, 1, 3}, 4, []int{1, 1, 2}},
		{[]int{14, 13, 11, 7}, []int{0, 1, 4, 6}, 13, []int{1, 4, 6, 3, 5, 2}},
		{[]int{14, 13, 11, 7}, []int{0, 1, 3, 9}, 13, []int{1, 3, 4, 2, 5, 6}},
		{[]int{62, 61, 59, 55, 47, 31}, []int{1, 5, 11, 24, 25, 27}, 31, []int{4, 10, 8, 7, 5, 6, 12, 11, 9, 13, 14, 15, 1, 3, 2}},
		{[]int{62, 61, 59, 55, 47, 31}, []int{1, 5, 11, 24, 25, 27}, 30, []int{4, 10, 7, 6, 4, 6, 11, 10, 8, 13, 14, 14, 1, 3, 2}},
	}
	for _, c := range cases {
		if got := impl.RoundDifferences(c.net, c.row, c.ring); !sameList(got, c.round) {
			t.Errorf("RoundDifferences(%v, %v, %d) is %v, not %v", c.net, c.row, c.ring, got, c.round)
		}
	}
}

// Promises 12, 13, 52 and 53: what is no net has no rows on a ring, not even of as many numbers.
func TestNoNetIsTurnedRound(t *testing.T) {
	for _, net := range badNets() {
		whole := make([]int, len(net))
		for place := range whole {
			whole[place] = place
		}
		rows := [][]int{nil, {}, {0}, {1}, {0, 1}, {1, 0}, {0, 2, 1}, {0, 1, 3}, {0, 3, 1, 2}, {0, 6, 1, 5, 2, 4, 3}, whole, make([]int, len(net))}
		for _, row := range rows {
			for _, ring := range []int{0, 1, 2, 3, 5, 7, 13, 30, 31, 32} {
				checkOffRing(t, net, row, ring)
			}
		}
	}
}

// Promises 12, 13, 52 and 53: rows of more or fewer numbers than places, and the empty row.
func TestRowsOfAnotherLengthOnRings(t *testing.T) {
	eachSmallNet(t, func(net []int) {
		for places := 0; places <= mostPlaces+2; places++ {
			if places == len(net) {
				continue
			}
			row := make([]int, places)
			for place := range row {
				row[place] = place
			}
			for _, ring := range []int{1, 2, places, 2*impl.WiresOf(net) + 1, mostRing} {
				checkOffRing(t, net, row, ring)
			}
		}
		checkOffRing(t, net, make([]int, 1000), mostRing)
	})
}

// Promises 12, 13, 52 and 53: one number that is not on the ring, at each place, also if it is the only one, and without wires.
func TestNumbersThatAreNotOnTheRing(t *testing.T) {
	most := int(^uint(0) >> 1)
	eachKindOfNet(t, func(net []int, table pairTable) {
		for _, ring := range []int{len(net), 7, 2*len(table.wires()) + 1, mostRing} {
			if ring < len(net) {
				continue
			}
			for place := range net {
				for _, number := range []int{-most - 1, -mostRing, -ring, -1, ring, ring + 1, 2 * ring, mostLabel + 1, 64, 1 << 40, most} {
					row := []int{0, 1, 2, 3, 4, 5}[:len(net)]
					row[place] = number
					checkOffRing(t, net, row, ring)
				}
			}
		}
	})
}

// Promises 12, 13, 52 and 53: a number that any two places have, neighbours or not, is there twice.
func TestNumbersTwiceOnARing(t *testing.T) {
	eachKindOfNet(t, func(net []int, table pairTable) {
		for place := range net {
			for other := range net[:place] {
				for _, ring := range []int{7, 2*len(table.wires()) + 1, mostRing} {
					row := []int{0, 1, 2, 3, 4, 5}[:len(net)]
					row[place] = row[other]
					checkOffRing(t, net, row, ring)
				}
			}
		}
	})
}

// Promises 12, 13, 52 and 53: rings of too few numbers and of too many.
func TestNoRingTurnsARow(t *testing.T) {
	eachKindOfNet(t, func(net []int, table pairTable) {
		rows := append(spreadRowsOf(len(net)), make([]int, len(net)))
		for _, row := range rows {
			for _, ring := range append(noRings(), greatest(row), greatest(row)-1, 1, 0) {
				if ring <= greatest(row) || ring > mostRing {
					checkOffRing(t, net, row, ring)
				}
			}
		}
	})
}

// The tests go through rows whose ends are just opposite on an even ring, through rings that rows cover and do not cover, and through ones that are the least that a row is on: else they would not see slips there.
func TestRingsOfAllKindsAreAmongThose(t *testing.T) {
	opposite, covered, smallest, shortened := 0, 0, 0, 0
	eachRowOnRings(t, func(net []int, table pairTable, row []int, ring int) {
		differences := differencesOf(table, row)
		for at, far := range roundOf(table, row, ring) {
			if far+far == ring {
				opposite++
			}
			if far < differences[at] {
				shortened++
			}
		}
		if areOnes(pairCountsOf(table, row, ring)) {
			covered++
		}
		if ring == greatest(row)+1 {
			smallest++
		}
	})
	if opposite == 0 || covered == 0 || smallest == 0 || shortened == 0 {
		t.Errorf("%d wires are opposite and %d shorter, %d rings are covered, and %d are the least", opposite, shortened, covered, smallest)
	}
}
