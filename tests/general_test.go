package tests

import (
	"strings"
	"testing"

	"loop.example/labelnets/impl"
)

// callNets calls each function of chapter 1 that takes a net.
func callNets(net []int) {
	impl.NetOk(net)
	impl.WireList(net)
	impl.WiresOf(net)
	impl.MostNear(net)
	impl.PartMany(net)
	impl.TreeOk(net)
	impl.SidesOf(net)
}

// callRows calls each function of chapter 2 that takes a net and a row.
func callRows(net []int, row []int) {
	impl.RowOk(net, row)
	impl.RowOnceOk(net, row)
	impl.Differences(net, row)
	impl.Sums(net, row)
}

// callMoves calls each function of chapter 2 that takes a net, a row and a number.
func callMoves(net []int, row []int, number int) {
	impl.TurnedRow(net, row, number)
	impl.MovedRow(net, row, number)
}

// callGraceful calls each function of chapter 3 that takes a net.
func callGraceful(net []int) {
	impl.GracefulRows(net)
	impl.GracefulMany(net)
	impl.GracefulFirst(net)
	impl.EvenOk(net)
}

// callCaterpillars calls each function of chapter 4.
func callCaterpillars(net []int) {
	impl.CaterpillarOk(net)
	impl.Backbone(net)
	impl.TwoColumns(net)
	impl.CaterpillarRow(net)
	impl.LegsOf(net)
}

// callParted calls each function of chapter 5 that takes a net and a row.
func callParted(net []int, row []int) {
	impl.PartedAt(net, row)
	impl.TurnedSides(net, row)
}

// callRound calls each function of chapter 6 that takes a net, a row and a ring.
func callRound(net []int, row []int, ring int) {
	impl.PairCounts(net, row, ring)
	impl.CoversOk(net, row, ring)
	impl.RoundDifferences(net, row, ring)
}

// callHarmony calls each function of chapter 7 that takes a net.
func callHarmony(net []int) {
	impl.HarmonyRows(net)
	impl.HarmonyMany(net)
}

// callFriendly calls each function of chapter 8 that takes a net.
func callFriendly(net []int) {
	impl.FriendlyFirst(net)
	impl.FriendlyGaps(net)
	impl.MostUnlike(net)
}

// callSets calls each function of chapter 8 that takes a net and a set.
func callSets(net []int, set int) {
	impl.UnlikeWires(net, set)
	impl.BalancedOk(net, set)
	impl.FriendlyOk(net, set)
}

// callOrders calls each function of chapter 9 that takes a net and a row.
func callOrders(net []int, row []int) {
	impl.OrderOk(net, row)
	impl.WidthOf(net, row)
	impl.LengthOf(net, row)
	impl.CutsOf(net, row)
}

// callNarrow calls each function of chapter 9 that takes a net.
func callNarrow(net []int) {
	impl.NarrowRow(net)
	impl.NarrowFirst(net)
}

// callStations calls each function of chapter 10 that takes a net and a row, or an order.
func callStations(net []int, row []int) {
	impl.ChannelOk(net, row)
	impl.GreedyRow(net, row)
}

// callChannels calls each function of chapter 10 that takes a net.
func callChannels(net []int) {
	impl.ChannelFirst(net)
	impl.FewestSpan(net)
	impl.OtherNet(net)
	impl.PathCover(net)
}

// callNumbers calls each function of chapter 11 that takes a list of numbers.
func callNumbers(list []int) {
	impl.CoprimeNet(list)
	impl.DivisorNet(list)
	impl.SumNet(list)
}

// callTables calls each function of chapter 12 that takes a table.
func callTables(table []int) {
	impl.TableOk(table)
	impl.TableNet(table)
	impl.TableNumber(table)
}

// callTexts calls each function of chapter 13 that takes a text, a line, or bytes.
func callTexts(text string) {
	impl.NetRead(text)
	impl.NetFrom([]byte(text))
	impl.LineTold(text)
	impl.LinesTold([]string{text, "", text})
}

// callSafely tells a panic with the argument that made it.
func callSafely(t *testing.T, net []int) {
	t.Helper()
	defer func() {
		if told := recover(); told != nil {
			t.Errorf("at %v: %v", net, told)
		}
	}()
	callNets(net)
	callGraceful(net)
	callCaterpillars(net)
	impl.PartedMany(net)
	callHarmony(net)
	callFriendly(net)
	callNarrow(net)
	callChannels(net)
	impl.PrimeFirst(net)
	impl.TableOf(net)
	impl.NetText(net)
	impl.NetBytes(net)
}

func TestNoFunctionPanics(t *testing.T) {
	most := int(^uint(0) >> 1)
	odd := []int{-most - 1, -64, -1, 0, 1, 2, 3, 5, 31, 32, 63, 64, 1 << 40, most}
	for places := 0; places <= 2*mostPlaces; places++ {
		for _, first := range odd {
			for _, last := range odd {
				net := make([]int, places)
				for place := range net {
					net[place] = first
				}
				if places > 0 {
					net[places-1] = last
				}
				callSafely(t, net)
			}
		}
	}
	for _, kind := range odd {
		for _, places := range odd {
			impl.ShapeNet(kind, places)
		}
	}
}

func TestNoFunctionOfCaterpillarsPanics(t *testing.T) {
	safely := func(net []int) {
		defer func() {
			if told := recover(); told != nil {
				t.Errorf("at %v: %v", net, told)
			}
		}()
		callCaterpillars(net)
	}
	eachNet(t, func(net []int, table pairTable) { safely(net) })
	for _, net := range badNets() {
		safely(net)
	}
	// Trees of more places than there may be, up to more than a set has bits.
	for places := mostPlaces + 1; places <= 70; places++ {
		path, star := make([]int, places), make([]int, places)
		for place := 1; place < places; place++ {
			path[place-1] |= 1 << place
			path[place] |= 1 << (place - 1)
			star[0] |= 1 << place
			star[place] = 1
		}
		safely(path)
		safely(star)
	}
}

// callRowsSafely tells a panic with the arguments that made it.
func callRowsSafely(t *testing.T, net []int, row []int, numbers []int) {
	t.Helper()
	told := 0
	defer func() {
		if what := recover(); what != nil {
			t.Errorf("at %v, %v and one of %v: %v", net, row, numbers[told:], what)
		}
	}()
	callRows(net, row)
	impl.GracefulOk(net, row)
	callParted(net, row)
	impl.HarmonyOk(net, row)
	callOrders(net, row)
	callStations(net, row)
	impl.PrimeOk(net, row)
	for at, number := range numbers {
		told = at
		callMoves(net, row, number)
		impl.RaisedRow(net, row, number)
		impl.HarmonyMoved(net, row, number, number)
		impl.HarmonyMoved(net, row, 1, number)
		impl.HarmonyMoved(net, row, number, 1)
	}
}

func TestNoFunctionOfRowsPanics(t *testing.T) {
	most := int(^uint(0) >> 1)
	odd := []int{-most - 1, -most, -31, -30, -1, 0, 1, 15, 30, 31, 32, 1 << 40, most - 1, most}
	nets := append(badNets(), []int{0}, []int{0, 0}, []int{2, 1}, []int{6, 5, 3}, []int{2, 5, 10, 4}, []int{16, 8, 0, 2, 1}, []int{62, 61, 59, 55, 47, 31})
	for _, net := range nets {
		for places := 0; places <= mostPlaces+2; places++ {
			for _, first := range odd {
				for _, last := range odd {
					row := make([]int, places)
					for place := range row {
						row[place] = first
					}
					if places > 0 {
						row[places-1] = last
					}
					callRowsSafely(t, net, row, odd)
				}
			}
		}
	}
}

func TestNoFunctionOfPartedRowsPanics(t *testing.T) {
	most := int(^uint(0) >> 1)
	numbers := []int{-most - 1, -31, -1, 0, 1, 24, 29, 30, 31, most - 5, most}
	eachKindOfNet(t, func(net []int, table pairTable) {
		callSafely(t, net)
		// There are many graceful rows: so just every tenth one is taken, also with one number less, one more, and one place less.
		rows := impl.GracefulRows(net)
		for at := 0; at < len(rows); at += 10 {
			callRowsSafely(t, net, rows[at], numbers)
			callRowsSafely(t, net, rows[at][1:], numbers)
			callRowsSafely(t, net, append([]int{0}, rows[at]...), numbers)
			callRowsSafely(t, net[1:], rows[at], numbers)
		}
	})
}

// callRoundSafely tells a panic with the arguments that made it.
func callRoundSafely(t *testing.T, net []int, row []int, ring int, numbers []int) {
	t.Helper()
	defer func() {
		if what := recover(); what != nil {
			t.Errorf("at %v, %v and a ring of %d: %v", net, row, ring, what)
		}
	}()
	callRound(net, row, ring)
	for _, by := range numbers {
		impl.TurnedBy(net, row, ring, by)
	}
}

func TestNoFunctionOfRowsTurnedRoundPanics(t *testing.T) {
	most := int(^uint(0) >> 1)
	odd := []int{-most - 1, -most, -31, -1, 0, 1, 2, 6, 7, 13, 30, 31, 32, 64, 1 << 40, most - 30, most - 1, most}
	nets := append(badNets(), []int{0}, []int{0, 0}, []int{2, 1}, []int{6, 5, 3}, []int{2, 5, 10, 4}, []int{16, 8, 0, 2, 1}, []int{62, 61, 59, 55, 47, 31})
	for _, net := range nets {
		for places := 0; places <= mostPlaces+2; places++ {
			for _, first := range odd {
				// Numbers go up from the first one, past what an int holds too, so that they are unlike.
				row := make([]int, places)
				for place := range row {
					row[place] = first + place
				}
				for _, ring := range odd {
					callRoundSafely(t, net, row, ring, odd)
				}
			}
			for _, ring := range odd {
				callRoundSafely(t, net, make([]int, places), ring, odd)
			}
		}
	}
	eachKindOfNet(t, func(net []int, table pairTable) {
		for _, row := range spreadRowsOf(len(net)) {
			for _, ring := range append(ringsOf(row, len(table.wires())), greatest(row), 0, -1, mostRing+1) {
				callRoundSafely(t, net, row, ring, []int{-1, 0, 1, ring - 1, ring, most})
				callRoundSafely(t, net, row[1:], ring, []int{0, 1})
				callRoundSafely(t, net[1:], row, ring, []int{0, 1})
			}
		}
	})
}

func TestNoFunctionOfHarmonyPanics(t *testing.T) {
	most := int(^uint(0) >> 1)
	numbers := []int{-most - 1, -31, -1, 0, 1, 2, 7, 29, 30, 31, most - 14, most}
	eachKindOfNet(t, func(net []int, table pairTable) {
		callSafely(t, net)
		// There are many harmonious rows: so just some are taken, also with one number less, one more, and one place less.
		rows := append(impl.HarmonyRows(net), make([]int, len(net)))
		for at := 0; at < len(rows); at += 1 + len(rows)/30 {
			callRowsSafely(t, net, rows[at], numbers)
			callRowsSafely(t, net, rows[at][1:], numbers)
			callRowsSafely(t, net, append([]int{0}, rows[at]...), numbers)
			callRowsSafely(t, net[1:], rows[at], numbers)
		}
	})
}

// callSetsSafely tells a panic with the arguments that made it.
func callSetsSafely(t *testing.T, net []int, set int) {
	t.Helper()
	defer func() {
		if told := recover(); told != nil {
			t.Errorf("at %v and the set %d: %v", net, set, told)
		}
	}()
	callSets(net, set)
}

func TestNoFunctionOfFriendsPanics(t *testing.T) {
	most := int(^uint(0) >> 1)
	nets := badNets()
	// Nets without wires of more places than there may be, up to more than a set has bits.
	for places := 1; places <= 70; places++ {
		nets = append(nets, make([]int, places))
	}
	eachKindOfNet(t, func(net []int, table pairTable) { nets = append(nets, net, net[1:]) })
	for _, net := range nets {
		callSafely(t, net)
		for set := -70; set <= 140; set++ {
			callSetsSafely(t, net, set)
		}
		for _, set := range []int{-most - 1, -most, -1 << 32, 1 << 32, 1 << 62, most - 1, most} {
			callSetsSafely(t, net, set)
		}
	}
}

func TestNoFunctionOfOrdersPanics(t *testing.T) {
	most := int(^uint(0) >> 1)
	nets := badNets()
	// Nets without wires of more places than there may be, up to more than a set has bits.
	for places := 1; places <= 70; places++ {
		nets = append(nets, make([]int, places))
	}
	eachKindOfNet(t, func(net []int, table pairTable) { nets = append(nets, net, net[1:]) })
	for _, net := range nets {
		callSafely(t, net)
		rows := [][]int{nil, {}, ownOrder(len(net)), ownOrder(70), turnedOf(ownOrder(len(net)), len(net)-1)}
		for places := 1; places <= mostPlaces+2; places++ {
			rows = append(rows, ownOrder(places))
		}
		for place := range net {
			for _, number := range []int{-most - 1, -31, -1, 0, len(net) - 1, len(net), 30, 31, 64, most} {
				row := ownOrder(len(net))
				row[place] = number
				rows = append(rows, row)
			}
		}
		for _, row := range rows {
			callRowsSafely(t, net, row, nil)
		}
	}
}

func TestNoFunctionOfChannelsPanics(t *testing.T) {
	most := int(^uint(0) >> 1)
	numbers := []int{-most - 1, -most, -31, -1, 5, 6, 29, 30, 31, 63, 64, 1 << 40, most - 1, most}
	check := func(net []int) {
		rows := append(rowsOf(mostPlaces), nil, ownOrder(len(net)), turnedOf(ownOrder(len(net)), len(net)-1), impl.ChannelFirst(net), make([]int, 70))
		for at := range net {
			for _, number := range numbers {
				changed := ownOrder(len(net))
				changed[at] = number
				rows = append(rows, changed)
			}
		}
		for _, row := range rows {
			callRowsSafely(t, net, row, nil)
			callRowsSafely(t, net, append([]int{0}, row...), nil)
		}
	}
	eachKindOfNet(t, func(net []int, table pairTable) {
		check(net)
		check(net[1:])
	})
	for _, net := range badNets() {
		callSafely(t, net)
		if len(net) < 1000 {
			check(net)
		}
	}
	eachNet(t, func(net []int, table pairTable) { callChannels(net) })
}

// callNumbersSafely tells a panic with the list that made it.
func callNumbersSafely(t *testing.T, list []int) {
	t.Helper()
	defer func() {
		if told := recover(); told != nil {
			t.Errorf("at %v: %v", list, told)
		}
	}()
	callNumbers(list)
}

func TestNoFunctionOfNumbersPanics(t *testing.T) {
	most := int(^uint(0) >> 1)
	odd := []int{-most - 1, -most, -31, -30, -2, -1, 0, 1, 2, 15, 29, 30, 31, 32, 63, 64, 65, 1 << 32, 1 << 40, most - 1, most}
	for _, list := range badLists() {
		callNumbersSafely(t, list)
	}
	for places := 0; places <= 70; places++ {
		callNumbersSafely(t, movedOf(ownOrder(places), 1))
		callNumbersSafely(t, ownOrder(places))
		for _, first := range odd {
			for _, last := range odd {
				// Numbers go up from the first one, past what an int holds too, so that they are unlike.
				list := make([]int, places)
				for at := range list {
					list[at] = first + at
				}
				if places > 0 {
					list[places-1] = last
				}
				callNumbersSafely(t, list)
			}
		}
	}
	eachKindOfNet(t, func(net []int, table pairTable) {
		callSafely(t, net)
		for _, row := range [][]int{ownOrder(len(net)), movedOf(ownOrder(len(net)), 1), movedOf(ownOrder(len(net)), 2), turnedOf(ownOrder(len(net)), len(net))} {
			callRowsSafely(t, net, row, nil)
			callRowsSafely(t, net, row[1:], nil)
			callRowsSafely(t, net[1:], row, nil)
			for at := range row {
				for _, number := range odd {
					changed := append([]int{}, row...)
					changed[at] = number
					callRowsSafely(t, net, changed, nil)
				}
			}
		}
	})
}

// callTablesSafely tells a panic with the table that made it.
func callTablesSafely(t *testing.T, table []int) {
	t.Helper()
	defer func() {
		if told := recover(); told != nil {
			t.Errorf("at %v: %v", table, told)
		}
	}()
	callTables(table)
}

// callTableNumbersSafely tells a panic with the numbers that made it.
func callTableNumbersSafely(t *testing.T, choices int, number int) {
	t.Helper()
	defer func() {
		if told := recover(); told != nil {
			t.Errorf("at %d and %d: %v", choices, number, told)
		}
	}()
	impl.TablesMany(choices)
	impl.TableAt(choices, number)
}

func TestNoFunctionOfTablesPanics(t *testing.T) {
	most := int(^uint(0) >> 1)
	odd := []int{-most - 1, -most, -64, -6, -5, -1, 0, 1, 2, 4, 5, 6, 63, 64, 65, 119, 120, 1 << 32, 1<<32 + 1, most - 1, most}
	for _, table := range badTables() {
		callTablesSafely(t, table)
	}
	for choices := 0; choices <= 70; choices++ {
		callTablesSafely(t, ownOrder(choices))
		callTablesSafely(t, turnedOf(ownOrder(choices), choices-1))
		for _, first := range odd {
			for at := 0; at < choices; at++ {
				table := make([]int, choices)
				table[at] = first
				callTablesSafely(t, table)
			}
		}
	}
	for _, choices := range odd {
		for _, number := range odd {
			callTableNumbersSafely(t, choices, number)
		}
	}
	for choices := -70; choices <= 70; choices++ {
		for number := -130; number <= 130; number++ {
			callTableNumbersSafely(t, choices, number)
		}
		for _, number := range odd {
			callTableNumbersSafely(t, choices, number)
			callTableNumbersSafely(t, number, choices)
		}
	}
	// Nets of more places than there may be, with one wire of each difference, up to more than a set has bits.
	for places := 1; places <= 70; places++ {
		star := make([]int, places)
		for place := 1; place < places; place++ {
			star[0] |= 1 << place
			star[place] = 1
		}
		callSafely(t, star)
		callSafely(t, star[1:])
	}
	eachNet(t, func(net []int, table pairTable) {
		impl.TableOf(net)
		impl.TableOf(net[1:])
	})
}

// callTextsSafely tells a panic with the text that made it.
func callTextsSafely(t *testing.T, text string) {
	t.Helper()
	defer func() {
		if told := recover(); told != nil {
			t.Errorf("at %.200q: %v", text, told)
		}
	}()
	callTexts(text)
}

// eachMixedText calls check with many texts of bytes that are mixed in the same way each time, of each length up to a greatest one.
func eachMixedText(most int, check func(text string)) {
	state := uint32(1)
	for length := 0; length <= most; length++ {
		for turn := 0; turn < 40; turn++ {
			text := make([]byte, length)
			for at := range text {
				state = state*1664525 + 1013904223
				text[at] = byte(state >> 24)
				// Of every four texts all bytes of three are such as texts of nets have.
				if turn%4 > 0 {
					text[at] = nearBytes[int(state>>24)%13]
				}
			}
			check(string(text))
		}
	}
}

func TestNoFunctionOfTextsPanics(t *testing.T) {
	for _, text := range append(badTexts(), badLines()...) {
		callTextsSafely(t, text)
	}
	eachText(2, allBytes(), func(text string) { callTextsSafely(t, text) })
	eachMixedText(2*mostLine, func(text string) {
		callTextsSafely(t, text)
		callTextsSafely(t, "4 "+text)
		callTextsSafely(t, "6 0-1 0-2 "+text)
		for _, word := range lineWords() {
			callTextsSafely(t, word+" "+text)
			callTextsSafely(t, word+" 6 "+text)
		}
	})
	for _, many := range []int{1000, 1 << 16, 1 << 20} {
		for _, piece := range []string{" ", "-", "4", "\x00", "\xff", " 0-1", "wires ", "0-0 "} {
			callTextsSafely(t, strings.Repeat(piece, many))
		}
		impl.LinesTold(make([]string, many))
	}
	eachKindOfNet(t, func(net []int, table pairTable) {
		callSafely(t, net)
		callTextsSafely(t, table.text())
		callTextsSafely(t, string(table.bytes()))
		for _, word := range lineWords() {
			callTextsSafely(t, word+" "+table.text())
		}
	})
	eachNotNet(t, func(list []int) {
		bytes := []byte{byte(len(list))}
		for _, set := range list {
			bytes = append(bytes, byte(set))
		}
		callTextsSafely(t, string(summed(bytes)))
	})
	impl.LinesTold(nil)
	impl.NetFrom(nil)
}

// A mark behind the end of an argument shows a write into its spare capacity.
const mark = 77

func TestNoFunctionWritesIntoArguments(t *testing.T) {
	check := func(net []int) {
		room := append(append([]int{}, net...), mark, mark)
		callNets(room[:len(net)])
		if !sameList(room[:len(net)], net) || room[len(net)] != mark || room[len(net)+1] != mark {
			t.Errorf("%v was written into: %v", net, room)
		}
	}
	eachNet(t, func(net []int, table pairTable) { check(net) })
	for _, net := range badNets() {
		check(net)
	}
}

// roomy returns a list with marks in its spare capacity.
func roomy(list []int) []int {
	room := append(append([]int{}, list...), mark, mark)
	return room[:len(list)]
}

// untouched reports whether a list that roomy returned has the same numbers and marks still.
func untouched(room []int, list []int) bool {
	behind := room[len(room) : len(room)+2]
	return sameList(room, list) && behind[0] == mark && behind[1] == mark
}

func TestNoFunctionOfRowsWritesIntoArguments(t *testing.T) {
	check := func(net []int, row []int) {
		netRoom := roomy(net)
		rowRoom := roomy(row)
		callRows(netRoom, rowRoom)
		for _, number := range []int{-31, -30, -3, -1, 0, 1, 3, 17, 30, 31} {
			callMoves(netRoom, rowRoom, number)
		}
		if !untouched(netRoom, net) || !untouched(rowRoom, row) {
			t.Errorf("%v or %v was written into: %v and %v", net, row, netRoom, rowRoom)
		}
	}
	eachSmallNet(t, func(net []int) {
		for _, row := range rowsOf(len(net)) {
			check(net, row)
			check(net, row[:len(row)-1])
			check(net, append([]int{31}, row...))
			row[len(row)-1] = -1
			check(net, row)
		}
	})
	for _, net := range badNets() {
		check(net, make([]int, len(net)))
		check(net, []int{3, 1, 2})
	}
}

func TestNoFunctionOfGracefulRowsWritesIntoArguments(t *testing.T) {
	check := func(net []int, rows [][]int) {
		netRoom := roomy(net)
		callGraceful(netRoom)
		for _, row := range rows {
			rowRoom := roomy(row)
			impl.GracefulOk(netRoom, rowRoom)
			if !untouched(rowRoom, row) {
				t.Errorf("%v was written into: %v", row, rowRoom)
			}
		}
		if !untouched(netRoom, net) {
			t.Errorf("%v was written into: %v", net, netRoom)
		}
	}
	eachKindOfNet(t, func(net []int, table pairTable) {
		rows := append(rowsOf(len(net)), make([]int, len(net)+1), []int{-1})
		if first, ok := impl.GracefulFirst(net); ok {
			rows = append(rows, first)
		}
		check(net, rows)
	})
	for _, net := range badNets() {
		check(net, [][]int{make([]int, len(net)), {3, 1, 2}})
	}
}

func TestNoFunctionOfCaterpillarsWritesIntoArguments(t *testing.T) {
	check := func(net []int) {
		room := roomy(net)
		callCaterpillars(room)
		if !untouched(room, net) {
			t.Errorf("%v was written into: %v", net, room)
		}
	}
	eachNet(t, func(net []int, table pairTable) { check(net) })
	for _, net := range badNets() {
		check(net)
	}
}

func TestNoFunctionOfPartedRowsWritesIntoArguments(t *testing.T) {
	check := func(net []int, row []int) {
		netRoom := roomy(net)
		rowRoom := roomy(row)
		callParted(netRoom, rowRoom)
		for _, by := range []int{-1, 0, 1, 5, 25, 30, 31} {
			impl.RaisedRow(netRoom, rowRoom, by)
		}
		if !untouched(netRoom, net) || !untouched(rowRoom, row) {
			t.Errorf("%v or %v was written into: %v and %v", net, row, netRoom, rowRoom)
		}
	}
	eachKindOfNet(t, func(net []int, table pairTable) {
		netRoom := roomy(net)
		impl.PartedMany(netRoom)
		if !untouched(netRoom, net) {
			t.Errorf("%v was written into: %v", net, netRoom)
		}
		rows := append(rowsOf(len(net)), impl.GracefulRows(net)...)
		for at := 0; at < len(rows); at += 1 + len(rows)/20 {
			check(net, rows[at])
			check(net, rows[at][1:])
		}
	})
	for _, net := range badNets() {
		room := roomy(net)
		impl.PartedMany(room)
		if !untouched(room, net) {
			t.Errorf("%v was written into: %v", net, room)
		}
		check(net, make([]int, len(net)))
		check(net, []int{0, 3, 1, 2})
	}
}

func TestNoFunctionOfRowsTurnedRoundWritesIntoArguments(t *testing.T) {
	check := func(net []int, row []int, ring int) {
		netRoom := roomy(net)
		rowRoom := roomy(row)
		callRound(netRoom, rowRoom, ring)
		for _, by := range []int{-1, 0, 1, 2, ring - 1, ring} {
			impl.TurnedBy(netRoom, rowRoom, ring, by)
		}
		if !untouched(netRoom, net) || !untouched(rowRoom, row) {
			t.Errorf("%v or %v was written into: %v and %v", net, row, netRoom, rowRoom)
		}
	}
	eachKindOfNet(t, func(net []int, table pairTable) {
		for _, row := range spreadRowsOf(len(net)) {
			for _, ring := range []int{greatest(row), greatest(row) + 1, 2*len(table.wires()) + 1, mostRing, mostRing + 1} {
				check(net, row, ring)
				check(net, row[1:], ring)
				check(net, append([]int{6}, row...), ring)
			}
		}
	})
	for _, net := range badNets() {
		for _, ring := range []int{0, 1, 7, mostRing} {
			check(net, make([]int, len(net)), ring)
			check(net, []int{0, 3, 1, 2}, ring)
		}
	}
}

func TestNoFunctionOfHarmonyWritesIntoArguments(t *testing.T) {
	check := func(net []int, rows [][]int) {
		netRoom := roomy(net)
		callHarmony(netRoom)
		for _, row := range rows {
			rowRoom := roomy(row)
			impl.HarmonyOk(netRoom, rowRoom)
			for _, factor := range []int{-1, 0, 1, 2, 7, 30, 31} {
				impl.HarmonyMoved(netRoom, rowRoom, factor, 1)
				impl.HarmonyMoved(netRoom, rowRoom, 1, factor)
			}
			if !untouched(rowRoom, row) {
				t.Errorf("%v was written into: %v", row, rowRoom)
			}
		}
		if !untouched(netRoom, net) {
			t.Errorf("%v was written into: %v", net, netRoom)
		}
	}
	eachKindOfNet(t, func(net []int, table pairTable) {
		rows := append(rowsOf(len(net)), make([]int, len(net)+1), []int{-1})
		harmonious := impl.HarmonyRows(net)
		for at := 0; at < len(harmonious); at += 1 + len(harmonious)/20 {
			rows = append(rows, harmonious[at])
		}
		check(net, rows)
	})
	for _, net := range badNets() {
		check(net, [][]int{make([]int, len(net)), {0, 1, 2, 0}})
	}
}

func TestNoFunctionOfFriendsWritesIntoArguments(t *testing.T) {
	check := func(net []int) {
		room := roomy(net)
		callFriendly(room)
		for _, set := range []int{-1, 0, 1, 3, 5, 7, 13, 21, 63, 64} {
			callSets(room, set)
		}
		if !untouched(room, net) {
			t.Errorf("%v was written into: %v", net, room)
		}
	}
	eachNet(t, func(net []int, table pairTable) { check(net) })
	for _, net := range badNets() {
		check(net)
	}
}

func TestNoFunctionOfOrdersWritesIntoArguments(t *testing.T) {
	check := func(net []int, rows [][]int) {
		netRoom := roomy(net)
		callNarrow(netRoom)
		for _, row := range rows {
			rowRoom := roomy(row)
			callOrders(netRoom, rowRoom)
			if !untouched(rowRoom, row) {
				t.Errorf("%v was written into: %v", row, rowRoom)
			}
		}
		if !untouched(netRoom, net) {
			t.Errorf("%v was written into: %v", net, netRoom)
		}
	}
	eachKindOfNet(t, func(net []int, table pairTable) {
		own := ownOrder(len(net))
		rows := append(rowsOf(len(net)), own, own[1:], turnedOf(own, len(net)-1), turnedOf(own, len(net)), ownOrder(len(net)+1))
		check(net, append(rows, someOrders(len(net))...))
	})
	for _, net := range badNets() {
		check(net, [][]int{make([]int, len(net)), ownOrder(len(net)), {1, 0, 2}})
	}
}

func TestNoFunctionOfChannelsWritesIntoArguments(t *testing.T) {
	check := func(net []int, rows [][]int) {
		netRoom := roomy(net)
		callChannels(netRoom)
		for _, row := range rows {
			rowRoom := roomy(row)
			callStations(netRoom, rowRoom)
			if !untouched(rowRoom, row) {
				t.Errorf("%v was written into: %v", row, rowRoom)
			}
		}
		if !untouched(netRoom, net) {
			t.Errorf("%v was written into: %v", net, netRoom)
		}
	}
	eachKindOfNet(t, func(net []int, table pairTable) {
		own := ownOrder(len(net))
		rows := append(rowsOf(len(net)), impl.ChannelFirst(net), own, own[1:], turnedOf(own, len(net)-1), turnedOf(own, len(net)), ownOrder(len(net)+1))
		check(net, append(rows, someOrders(len(net))...))
	})
	for _, net := range badNets() {
		check(net, [][]int{make([]int, len(net)), ownOrder(len(net)), {1, 0, 2}})
	}
}

func TestNoFunctionOfNumbersWritesIntoArguments(t *testing.T) {
	lists := append(badLists(), someNumbers()...)
	eachNumbers(t, 3, func(list []int) { lists = append(lists, list) })
	for _, list := range lists {
		room := roomy(list)
		callNumbers(room)
		if !untouched(room, list) {
			t.Errorf("%v was written into: %v", list, room)
		}
	}
	check := func(net []int, rows [][]int) {
		netRoom := roomy(net)
		impl.PrimeFirst(netRoom)
		for _, row := range rows {
			rowRoom := roomy(row)
			impl.PrimeOk(netRoom, rowRoom)
			if !untouched(rowRoom, row) {
				t.Errorf("%v was written into: %v", row, rowRoom)
			}
		}
		if !untouched(netRoom, net) {
			t.Errorf("%v was written into: %v", net, netRoom)
		}
	}
	eachKindOfNet(t, func(net []int, table pairTable) {
		own := movedOf(ownOrder(len(net)), 1)
		rows := append(rowsOf(len(net)), own, own[1:], turnedOf(own, len(net)+1), movedOf(own, 1), movedOf(ownOrder(len(net)+1), 1))
		if first, ok := impl.PrimeFirst(net); ok {
			rows = append(rows, first)
		}
		check(net, rows)
	})
	for _, net := range badNets() {
		check(net, [][]int{make([]int, len(net)), movedOf(ownOrder(len(net)), 1), {2, 1, 3}})
	}
}

func TestNoFunctionOfTablesWritesIntoArguments(t *testing.T) {
	check := func(table []int) {
		room := roomy(table)
		callTables(room)
		if !untouched(room, table) {
			t.Errorf("%v was written into: %v", table, room)
		}
	}
	eachChoices(t, func(list []int, ahead int) { check(list) })
	for _, table := range badTables() {
		check(table)
	}
	checkNet := func(net []int) {
		room := roomy(net)
		impl.TableOf(room)
		if !untouched(room, net) {
			t.Errorf("%v was written into: %v", net, room)
		}
	}
	eachNet(t, func(net []int, table pairTable) { checkNet(net) })
	for _, net := range badNets() {
		checkNet(net)
	}
}

// roomyBytes returns bytes with marks in their spare capacity.
func roomyBytes(bytes []byte) []byte {
	room := append(append([]byte{}, bytes...), mark, mark)
	return room[:len(bytes)]
}

// untouchedBytes reports whether bytes that roomyBytes returned are the same, with their marks still.
func untouchedBytes(room []byte, bytes []byte) bool {
	behind := room[len(room) : len(room)+2]
	return string(room) == string(bytes) && behind[0] == mark && behind[1] == mark
}

// A line behind the end of an argument shows a write into its spare capacity.
const markLine = "wires 2 0-1"

// roomyLines returns lines with marks in their spare capacity.
func roomyLines(lines []string) []string {
	room := append(append([]string{}, lines...), markLine, markLine)
	return room[:len(lines)]
}

// untouchedLines reports whether lines that roomyLines returned are the same, with their marks still.
func untouchedLines(room []string, lines []string) bool {
	behind := room[len(room) : len(room)+2]
	for at := range lines {
		if room[at] != lines[at] {
			return false
		}
	}
	return len(room) == len(lines) && behind[0] == markLine && behind[1] == markLine
}

func TestNoFunctionOfTextsWritesIntoArguments(t *testing.T) {
	checkNet := func(net []int) {
		room := roomy(net)
		impl.NetText(room)
		impl.NetBytes(room)
		if !untouched(room, net) {
			t.Errorf("%v was written into: %v", net, room)
		}
	}
	checkBytes := func(bytes []byte) {
		room := roomyBytes(bytes)
		impl.NetFrom(room)
		if !untouchedBytes(room, bytes) {
			t.Errorf("%v was written into: %v", bytes, room)
		}
	}
	checkAll := func(lines []string) {
		room := roomyLines(lines)
		impl.LinesTold(room)
		if !untouchedLines(room, lines) {
			t.Errorf("%q was written into: %q", lines, room)
		}
	}
	eachNet(t, func(net []int, table pairTable) {
		checkNet(net)
		checkBytes(table.bytes())
	})
	eachNotNet(t, checkNet)
	eachKindOfNet(t, func(net []int, table pairTable) {
		// A byte less, one more, and a wrong sum.
		bytes := table.bytes()
		checkBytes(bytes[:len(bytes)-1])
		checkBytes(append(bytes, 0))
		checkBytes(append(bytes[:len(bytes)-1], 251))
		checkAll([]string{"wires " + table.text(), "", "sides " + table.text(), "sides " + table.text() + " "})
	})
	eachMixedText(20, func(text string) { checkBytes([]byte(text)) })
	checkAll(nil)
	checkAll(badLines())
	checkAll(badTexts())
}

// spoil writes into all of a list, and into its spare capacity.
func spoil(list []int) {
	list = list[:cap(list)]
	for at := range list {
		list[at] = mark
	}
}

func TestResultsAreNewMemory(t *testing.T) {
	eachNet(t, func(net []int, table pairTable) {
		kept := append([]int{}, net...)
		want := table.wires()
		for spoilt := range want {
			wires := impl.WireList(net)
			if len(wires) != len(want) {
				t.Fatalf("%d wires", len(wires))
			}
			spoil(wires[spoilt])
			for at := range wires {
				if at != spoilt && !sameList(wires[at], want[at][:]) {
					t.Errorf("the wires %d and %d share memory", spoilt, at)
				}
			}
		}
		for at, wire := range impl.WireList(net) {
			if !sameList(wire, want[at][:]) {
				t.Errorf("the wire %d of two answers shares memory", at)
			}
		}
		if !sameList(net, kept) {
			t.Errorf("wires share memory with the net: %v", net)
		}
	})
	for kind := 0; kind <= 2; kind++ {
		for places := 3; places <= mostPlaces; places++ {
			spoil(impl.ShapeNet(kind, places))
			if !sameList(impl.ShapeNet(kind, places), shapeTable(kind, places).net()) {
				t.Errorf("shapes %d of %d places share memory", kind, places)
			}
		}
	}
}

// rowAnswers returns all lists that chapter 2 returns for a net, a row and a number.
func rowAnswers(net []int, row []int, number int) [][]int {
	return [][]int{
		impl.Differences(net, row),
		impl.Sums(net, row),
		impl.TurnedRow(net, row, number),
		impl.MovedRow(net, row, number),
	}
}

// sameLists reports whether two lists of lists have the same numbers, but for the lists ahead of one of them.
func sameLists(a [][]int, b [][]int, from int) bool {
	if len(a) != len(b) {
		return false
	}
	for at := from; at < len(a); at++ {
		if !sameList(a[at], b[at]) {
			return false
		}
	}
	return true
}

func TestResultsOfRowsAreNewMemory(t *testing.T) {
	check := func(net []int, row []int, number int) {
		netRoom := roomy(net)
		rowRoom := roomy(row)
		want := rowAnswers(net, row, number)
		first := rowAnswers(netRoom, rowRoom, number)
		second := rowAnswers(netRoom, rowRoom, number)
		for at := range first {
			spoil(first[at])
			if !sameLists(first, want, at+1) || !sameLists(second, want, 0) {
				t.Errorf("at %v, %v and %d the answer %d shares memory with another one", net, row, number, at)
			}
			if !untouched(netRoom, net) || !untouched(rowRoom, row) {
				t.Errorf("at %v, %v and %d the answer %d shares memory with an argument", net, row, number, at)
			}
		}
	}
	eachSmallNet(t, func(net []int) {
		for _, row := range rowsOf(len(net)) {
			for _, number := range []int{-3, 0, 1, greatest(row), mostLabel} {
				check(net, row, number)
			}
		}
	})
	// A row that is the same turned, or moved by 0, is new memory still.
	check([]int{2, 1}, []int{15, 15}, mostLabel)
	check([]int{2, 5, 10, 4}, []int{0, 0, 0, 0}, 0)
	check([]int{62, 61, 59, 55, 47, 31}, []int{0, 1, 3, 7, 12, 20}, 0)
}

func TestResultsOfGracefulRowsAreNewMemory(t *testing.T) {
	nets := [][]int{{0}, {2, 1}, {6, 5, 3}, {2, 5, 10, 4}, {10, 5, 10, 5}, {14, 13, 11, 7}, {2, 5, 10, 20, 8}, {6, 5, 3, 0}, {2, 5, 10, 20, 40, 16}}
	for _, net := range nets {
		netRoom := roomy(net)
		want := gracefulRowsOf(tableOfNet(net))
		kept := impl.GracefulRows(netRoom)
		keptFirst, _ := impl.GracefulFirst(netRoom)
		rows := impl.GracefulRows(netRoom)
		for at := range rows {
			spoil(rows[at])
			if !sameLists(rows, want, at+1) {
				t.Errorf("at %v the row %d shares memory with another one", net, at)
			}
		}
		first, _ := impl.GracefulFirst(netRoom)
		spoil(first)
		if again, _ := impl.GracefulFirst(netRoom); !sameList(again, want[0]) || !sameList(keptFirst, want[0]) {
			t.Errorf("at %v the first rows of two answers share memory", net)
		}
		if !sameLists(kept, want, 0) || !sameLists(impl.GracefulRows(netRoom), want, 0) {
			t.Errorf("at %v the rows of two answers share memory", net)
		}
		if !untouched(netRoom, net) {
			t.Errorf("rows share memory with the net: %v", netRoom)
		}
	}
}

// treeAnswers returns all lists that chapter 4 returns for a net.
func treeAnswers(net []int) [][]int {
	first, second := impl.TwoColumns(net)
	return [][]int{impl.Backbone(net), first, second, impl.CaterpillarRow(net)}
}

func TestResultsOfCaterpillarsAreNewMemory(t *testing.T) {
	eachTree(t, func(net []int, table pairTable) {
		room := roomy(net)
		want := treeAnswers(net)
		kept := treeAnswers(room)
		for spoilt := range want {
			answers := treeAnswers(room)
			spoil(answers[spoilt])
			for at := range answers {
				if at != spoilt && !sameList(answers[at], want[at]) {
					t.Errorf("the lists %d and %d share memory", spoilt, at)
				}
			}
		}
		if !sameLists(kept, want, 0) || !sameLists(treeAnswers(room), want, 0) {
			t.Error("lists of two answers share memory")
		}
		if !untouched(room, net) {
			t.Errorf("lists share memory with the net: %v", room)
		}
	})
}

// partedAnswers returns all lists that chapter 5 returns for a net, a row and a number.
func partedAnswers(net []int, row []int, by int) [][]int {
	return [][]int{impl.TurnedSides(net, row), impl.RaisedRow(net, row, by)}
}

func TestResultsOfPartedRowsAreNewMemory(t *testing.T) {
	check := func(net []int, row []int, by int) {
		netRoom := roomy(net)
		rowRoom := roomy(row)
		want := partedAnswers(net, row, by)
		first := partedAnswers(netRoom, rowRoom, by)
		second := partedAnswers(netRoom, rowRoom, by)
		if len(first[0]) != len(net) || len(first[1]) != len(net) {
			t.Fatalf("at %v, %v and %d the answers are %v", net, row, by, first)
		}
		for at := range first {
			spoil(first[at])
			if !sameLists(first, want, at+1) || !sameLists(second, want, 0) {
				t.Errorf("at %v, %v and %d the answer %d shares memory with another one", net, row, by, at)
			}
			if !untouched(netRoom, net) || !untouched(rowRoom, row) {
				t.Errorf("at %v, %v and %d the answer %d shares memory with an argument", net, row, by, at)
			}
		}
	}
	// Also rows that are the same turned within their sides, or raised by 0.
	nets := [][]int{{0}, {2, 1}, {2, 5, 2}, {2, 5, 10, 4}, {10, 5, 10, 5}, {10, 5, 10, 5, 0}, {28, 28, 3, 3, 3}, {2, 5, 10, 20, 40, 16}}
	for _, net := range nets {
		table := tableOfNet(net)
		for _, row := range gracefulRowsOf(table) {
			if partedOf(table, row) < 0 {
				continue
			}
			for _, by := range []int{0, 1, mostLabel - len(table.wires())} {
				check(net, row, by)
			}
		}
	}
}

// roundAnswers returns all lists that chapter 6 returns for a net, a row, a ring and a number.
func roundAnswers(net []int, row []int, ring int, by int) [][]int {
	return [][]int{impl.TurnedBy(net, row, ring, by), impl.PairCounts(net, row, ring), impl.RoundDifferences(net, row, ring)}
}

func TestResultsOfRowsTurnedRoundAreNewMemory(t *testing.T) {
	check := func(net []int, row []int, ring int, by int) {
		netRoom := roomy(net)
		rowRoom := roomy(row)
		want := roundAnswers(net, row, ring, by)
		first := roundAnswers(netRoom, rowRoom, ring, by)
		second := roundAnswers(netRoom, rowRoom, ring, by)
		if len(first[0]) != len(net) || len(first[1]) != ring*(ring-1)/2 {
			t.Fatalf("at %v, %v, %d and %d the answers are %v", net, row, ring, by, first)
		}
		for at := range first {
			spoil(first[at])
			if !sameLists(first, want, at+1) || !sameLists(second, want, 0) {
				t.Errorf("at %v, %v, %d and %d the answer %d shares memory with another one", net, row, ring, by, at)
			}
			if !untouched(netRoom, net) || !untouched(rowRoom, row) {
				t.Errorf("at %v, %v, %d and %d the answer %d shares memory with an argument", net, row, ring, by, at)
			}
		}
	}
	eachSmallNet(t, func(net []int) {
		for _, row := range spreadRowsOf(len(net)) {
			// A row turned by 0 is new memory still.
			for _, ring := range []int{greatest(row) + 1, mostRing} {
				check(net, row, ring, 0)
				check(net, row, ring, ring-1)
			}
		}
	})
	check([]int{62, 61, 59, 55, 47, 31}, []int{1, 5, 11, 24, 25, 27}, mostRing, 0)
	check([]int{62, 61, 59, 55, 47, 31}, []int{1, 5, 11, 24, 25, 27}, mostRing, 6)
}

func TestResultsOfHarmonyAreNewMemory(t *testing.T) {
	nets := [][]int{{2, 1}, {2, 5, 2}, {6, 5, 3}, {2, 5, 10, 4}, {6, 5, 11, 4}, {14, 13, 11, 7}, {18, 5, 10, 20, 9}, {62, 1, 1, 1, 1, 1}}
	for _, net := range nets {
		netRoom := roomy(net)
		want := harmoniousRowsOf(tableOfNet(net))
		kept := impl.HarmonyRows(netRoom)
		rows := impl.HarmonyRows(netRoom)
		for at := range rows {
			spoil(rows[at])
			if !sameLists(rows, want, at+1) {
				t.Errorf("at %v the row %d shares memory with another one", net, at)
			}
		}
		if !sameLists(kept, want, 0) || !sameLists(impl.HarmonyRows(netRoom), want, 0) {
			t.Errorf("at %v the rows of two answers share memory", net)
		}
		// A row that is the same moved is new memory still.
		for _, row := range want {
			rowRoom := roomy(row)
			keptRow := impl.HarmonyMoved(netRoom, rowRoom, 1, 0)
			spoil(impl.HarmonyMoved(netRoom, rowRoom, 1, 0))
			if !untouched(rowRoom, row) || !sameList(keptRow, row) || !sameList(impl.HarmonyMoved(netRoom, rowRoom, 1, 0), row) {
				t.Errorf("at %v and %v the row moved shares memory", net, row)
			}
		}
		if !untouched(netRoom, net) {
			t.Errorf("rows share memory with the net: %v", netRoom)
		}
	}
}

func TestResultsOfFriendsAreNewMemory(t *testing.T) {
	eachKindOfNet(t, func(net []int, table pairTable) {
		room := roomy(net)
		want := gapsOf(table)
		kept := impl.FriendlyGaps(room)
		spoil(impl.FriendlyGaps(room))
		if !sameList(kept, want) || !sameList(impl.FriendlyGaps(room), want) {
			t.Error("the gaps of two answers share memory")
		}
		if !untouched(room, net) {
			t.Errorf("gaps share memory with the net: %v", room)
		}
	})
}

// orderAnswers returns all lists that chapter 9 returns for a net and a row.
func orderAnswers(net []int, row []int) [][]int {
	return [][]int{impl.CutsOf(net, row), impl.NarrowRow(net), impl.NarrowFirst(net)}
}

func TestResultsOfOrdersAreNewMemory(t *testing.T) {
	check := func(net []int, row []int) {
		netRoom := roomy(net)
		rowRoom := roomy(row)
		want := orderAnswers(net, row)
		first := orderAnswers(netRoom, rowRoom)
		second := orderAnswers(netRoom, rowRoom)
		for at := range first {
			spoil(first[at])
			if !sameLists(first, want, at+1) || !sameLists(second, want, 0) || !sameLists(orderAnswers(netRoom, rowRoom), want, 0) {
				t.Errorf("at %v and %v the answer %d shares memory with another one", net, row, at)
			}
			if !untouched(netRoom, net) || !untouched(rowRoom, row) {
				t.Errorf("at %v and %v the answer %d shares memory with an argument", net, row, at)
			}
		}
	}
	eachNetUpTo(t, mostPlaces-1, func(net []int, table pairTable) {
		check(net, ownOrder(len(net)))
		// The order that is told may be the one that is asked for.
		check(net, impl.NarrowFirst(net))
	})
	check([]int{62, 61, 59, 55, 47, 31}, []int{0, 1, 2, 3, 4, 5})
	check([]int{42, 21, 10, 5, 2, 1}, []int{1, 3, 4, 2, 5, 0})
}

// channelAnswers returns all lists that chapter 10 returns for a net and an order.
func channelAnswers(net []int, order []int) [][]int {
	return [][]int{impl.ChannelFirst(net), impl.GreedyRow(net, order), impl.OtherNet(net)}
}

func TestResultsOfChannelsAreNewMemory(t *testing.T) {
	check := func(net []int, order []int) {
		netRoom := roomy(net)
		orderRoom := roomy(order)
		want := channelAnswers(net, order)
		first := channelAnswers(netRoom, orderRoom)
		second := channelAnswers(netRoom, orderRoom)
		for at := range first {
			if len(first[at]) != len(net) {
				t.Fatalf("at %v and %v the answers are %v", net, order, first)
			}
			spoil(first[at])
			if !sameLists(first, want, at+1) || !sameLists(second, want, 0) || !sameLists(channelAnswers(netRoom, orderRoom), want, 0) {
				t.Errorf("at %v and %v the answer %d shares memory with another one", net, order, at)
			}
			if !untouched(netRoom, net) || !untouched(orderRoom, order) {
				t.Errorf("at %v and %v the answer %d shares memory with an argument", net, order, at)
			}
		}
	}
	eachKindOfNet(t, func(net []int, table pairTable) {
		check(net, ownOrder(len(net)))
		check(net, turnedOf(ownOrder(len(net)), len(net)-1))
	})
	// The channels that are given may be the same as the order, and the other net the same as the net.
	check([]int{0}, []int{0})
}

// someNumbers returns lists of numbers of which nets are made, some of which are the same as the nets.
func someNumbers() [][]int {
	return [][]int{{1}, {30}, {2, 1}, {1, 2}, {3, 2, 1}, {6, 5, 3}, {1, 2, 4, 9}, {2, 3, 6, 12}, {14, 13, 11, 7}, {30, 29, 27, 23, 15}, {1, 2, 3, 4, 5, 6}, {30, 1, 15, 2, 17, 6}}
}

// numberAnswers returns all lists that chapter 11 returns for a list of numbers, and for a net.
func numberAnswers(list []int, net []int) [][]int {
	row, _ := impl.PrimeFirst(net)
	return [][]int{impl.CoprimeNet(list), impl.DivisorNet(list), impl.SumNet(list), row}
}

func TestResultsOfNumbersAreNewMemory(t *testing.T) {
	check := func(list []int, net []int) {
		listRoom := roomy(list)
		netRoom := roomy(net)
		want := numberAnswers(list, net)
		first := numberAnswers(listRoom, netRoom)
		second := numberAnswers(listRoom, netRoom)
		for at := range first {
			if len(first[at]) == 0 {
				t.Fatalf("at %v and %v the answers are %v", list, net, first)
			}
			spoil(first[at])
			if !sameLists(first, want, at+1) || !sameLists(second, want, 0) || !sameLists(numberAnswers(listRoom, netRoom), want, 0) {
				t.Errorf("at %v and %v the answer %d shares memory with another one", list, net, at)
			}
			if !untouched(listRoom, list) || !untouched(netRoom, net) {
				t.Errorf("at %v and %v the answer %d shares memory with an argument", list, net, at)
			}
		}
	}
	for _, list := range someNumbers() {
		eachTree(t, func(net []int, table pairTable) {
			if len(net) < mostPlaces {
				check(list, net)
			}
		})
		check(list, impl.ShapeNet(1, mostPlaces))
		check(list, make([]int, mostPlaces))
	}
}

// tableAnswers returns all lists that chapter 12 returns for a table, for its net, and for its number.
func tableAnswers(list []int, net []int, number int) [][]int {
	table, _ := impl.TableOf(net)
	counted, _ := impl.TableAt(len(list), number)
	return [][]int{impl.TableNet(list), table, counted}
}

func TestResultsOfTablesAreNewMemory(t *testing.T) {
	eachChoices(t, func(list []int, ahead int) {
		net := choicesTable(list).net()
		listRoom := roomy(list)
		netRoom := roomy(net)
		want := [][]int{net, list, list}
		first := tableAnswers(listRoom, netRoom, ahead)
		second := tableAnswers(listRoom, netRoom, ahead)
		for at := range first {
			if !sameLists(first, want, at) {
				t.Fatalf("the answers are %v", first)
			}
			spoil(first[at])
			if !sameLists(first, want, at+1) || !sameLists(second, want, 0) || !sameLists(tableAnswers(listRoom, netRoom, ahead), want, 0) {
				t.Errorf("the answer %d shares memory with another one", at)
			}
			if !untouched(listRoom, list) || !untouched(netRoom, net) {
				t.Errorf("the answer %d shares memory with an argument", at)
			}
		}
	})
}

// spoilBytes writes into all of some bytes, and into their spare capacity.
func spoilBytes(bytes []byte) {
	bytes = bytes[:cap(bytes)]
	for at := range bytes {
		bytes[at] = mark
	}
}

// spoilLines writes into all of some lines, and into their spare capacity.
func spoilLines(lines []string) {
	lines = lines[:cap(lines)]
	for at := range lines {
		lines[at] = markLine
	}
}

func TestResultsOfTextsAreNewMemory(t *testing.T) {
	eachNet(t, func(net []int, table pairTable) {
		want := table.bytes()
		text := table.text()
		netRoom := roomy(net)
		bytesRoom := roomyBytes(want)
		keptBytes := impl.NetBytes(netRoom)
		keptRead, _ := impl.NetRead(text)
		keptFrom, _ := impl.NetFrom(bytesRoom)
		read, _ := impl.NetRead(text)
		from, _ := impl.NetFrom(bytesRoom)
		if !sameList(read, net) || !sameList(from, net) {
			t.Fatalf("the answers are %v and %v", read, from)
		}
		spoilBytes(impl.NetBytes(netRoom))
		spoil(read)
		if !sameList(from, net) {
			t.Error("a net that is read from a text shares memory with one from bytes")
		}
		spoil(from)
		again, _ := impl.NetRead(text)
		anew, _ := impl.NetFrom(bytesRoom)
		if string(keptBytes) != string(want) || string(impl.NetBytes(netRoom)) != string(want) || !sameList(keptRead, net) || !sameList(keptFrom, net) || !sameList(again, net) || !sameList(anew, net) {
			t.Error("two answers share memory")
		}
		if !untouched(netRoom, net) || !untouchedBytes(bytesRoom, want) {
			t.Errorf("an answer shares memory with an argument: %v or %v", netRoom, bytesRoom)
		}
	})
	// Lines, of which one is the same as its answer.
	lines := []string{"what", "wires 2 0-1", "what", "sides 2"}
	want := []string{"what", "1", "what", "3"}
	room := roomyLines(lines)
	kept, _ := impl.LinesTold(room)
	told, many := impl.LinesTold(room)
	if len(told) != len(want) || many != 2 {
		t.Fatalf("LinesTold is %q, %d", told, many)
	}
	spoilLines(told)
	checkLines(t, room, want, 2)
	for at := range want {
		if kept[at] != want[at] {
			t.Errorf("the answers of two calls share memory: %q", kept)
		}
	}
	if !untouchedLines(room, lines) {
		t.Errorf("answers share memory with the lines: %q", room)
	}
}

// What was asked before must not change an answer.
func TestNoStateBetweenCalls(t *testing.T) {
	path := []int{2, 5, 10, 4}
	triangle := []int{6, 5, 3}
	for turn := 0; turn < 3; turn++ {
		callNets(triangle)
		if impl.SidesOf(path) != 5 || impl.PartMany(path) != 1 || impl.WiresOf(path) != 3 {
			t.Errorf("the turn %d answers otherwise", turn)
		}
		row := []int{0, 3, 1, 2}
		if !impl.RowOnceOk(path, row) || impl.RowOnceOk(path, []int{0, 3, 1, 3}) || !impl.RowOnceOk(triangle, []int{3, 0, 2}) {
			t.Errorf("rows of the turn %d are told otherwise", turn)
		}
		callRows(triangle, row)
		callMoves(triangle, row, 3)
		if !sameList(impl.Differences(path, row), []int{3, 2, 1}) || !sameList(impl.TurnedRow(path, row, 3), []int{3, 0, 2, 1}) {
			t.Errorf("rows of the turn %d are answered otherwise", turn)
		}
		callGraceful(triangle)
		impl.GracefulOk(path, []int{0, 3, 2, 1})
		if first, ok := impl.GracefulFirst(path); !ok || !sameList(first, row) || impl.GracefulMany(path) != 4 || !impl.GracefulOk(path, row) {
			t.Errorf("graceful rows of the turn %d are told otherwise", turn)
		}
		callCaterpillars(impl.ShapeNet(2, 6))
		callCaterpillars(triangle)
		if !sameList(impl.Backbone(path), []int{1, 2}) || !sameList(impl.CaterpillarRow(path), []int{3, 0, 2, 1}) || impl.LegsOf(path) != 2 {
			t.Errorf("caterpillars of the turn %d are told otherwise", turn)
		}
		callParted(triangle, []int{0, 1, 3})
		callParted(impl.ShapeNet(2, 6), []int{5, 0, 1, 2, 3, 4})
		impl.RaisedRow(impl.ShapeNet(2, 6), []int{5, 0, 1, 2, 3, 4}, 7)
		impl.PartedMany(triangle)
		if impl.PartedAt(path, row) != 1 || impl.PartedMany(path) != 4 || !sameList(impl.TurnedSides(path, row), []int{1, 2, 0, 3}) || !sameList(impl.RaisedRow(path, row, 5), []int{0, 8, 1, 7}) {
			t.Errorf("parted rows of the turn %d are told otherwise", turn)
		}
		callRound(triangle, []int{0, 1, 3}, 7)
		callRound([]int{62, 61, 59, 55, 47, 31}, []int{1, 5, 11, 24, 25, 27}, 31)
		impl.TurnedBy(triangle, []int{0, 1, 3}, 4, 3)
		if !sameList(impl.TurnedBy(path, row, 7, 5), []int{5, 1, 6, 0}) || !sameList(impl.PairCounts(path, row, 5), []int{1, 2, 2, 1, 1, 2, 2, 1, 2, 1}) || !impl.CoversOk(path, row, 7) || !sameList(impl.RoundDifferences(path, row, 5), []int{2, 2, 1}) {
			t.Errorf("rows of the turn %d are turned round otherwise", turn)
		}
		callHarmony(triangle)
		impl.HarmonyOk(path, []int{0, 0, 1, 1})
		impl.HarmonyMoved(triangle, []int{0, 1, 2}, 2, 1)
		if impl.HarmonyMany(path) != 12 || !impl.HarmonyOk(path, []int{0, 1, 2, 0}) || !sameList(impl.HarmonyRows(path)[0], []int{0, 1, 1, 2}) || !sameList(impl.HarmonyMoved(path, []int{0, 1, 2, 0}, 1, 1), []int{1, 2, 0, 1}) {
			t.Errorf("harmonious rows of the turn %d are told otherwise", turn)
		}
		callFriendly(triangle)
		callFriendly(impl.ShapeNet(1, 6))
		callSets(triangle, 1)
		callSets([]int{62, 61, 59, 55, 47, 31}, 7)
		if impl.UnlikeWires(path, 5) != 3 || impl.BalancedOk(path, 1) || !impl.FriendlyOk(path, 3) || impl.FriendlyFirst(path) != 3 || !sameList(impl.FriendlyGaps(path), []int{1, 3}) || impl.MostUnlike(path) != 3 {
			t.Errorf("sets of the turn %d are told otherwise", turn)
		}
		callNarrow(triangle)
		callNarrow([]int{62, 61, 59, 55, 47, 31})
		callOrders(triangle, []int{2, 0, 1})
		callOrders(path, []int{2, 0, 3, 3})
		if !impl.OrderOk(path, row) || impl.WidthOf(path, row) != 3 || impl.LengthOf(path, row) != 6 || !sameList(impl.CutsOf(path, row), []int{1, 3, 2}) || !sameList(impl.NarrowRow(path), []int{1, 3, 1}) || !sameList(impl.NarrowFirst(path), []int{0, 1, 2, 3}) {
			t.Errorf("orders of the turn %d are told otherwise", turn)
		}
		callChannels(triangle)
		callChannels([]int{62, 61, 59, 55, 47, 31})
		callStations(triangle, []int{2, 0, 1})
		callStations(path, []int{2, 0, 3, 3})
		if !impl.ChannelOk(path, []int{1, 3, 0, 2}) || impl.ChannelOk(path, row) || !sameList(impl.ChannelFirst(path), []int{1, 3, 0, 2}) || impl.FewestSpan(path) != 3 || !sameList(impl.GreedyRow(path, []int{2, 0, 3, 1}), []int{1, 3, 0, 2}) || !sameList(impl.OtherNet(path), []int{12, 8, 1, 3}) || impl.PathCover(path) != 1 {
			t.Errorf("channels of the turn %d are told otherwise", turn)
		}
		callNumbers([]int{6, 5, 3})
		callNumbers([]int{1, 2, 3, 4, 5, 6})
		impl.PrimeFirst(triangle)
		impl.PrimeOk(path, row)
		first, ok := impl.PrimeFirst(path)
		if !impl.PrimeOk(path, []int{4, 1, 2, 3}) || impl.PrimeOk(path, []int{4, 2, 1, 3}) || !ok || !sameList(first, []int{1, 2, 3, 4}) {
			t.Errorf("prime rows of the turn %d are told otherwise", turn)
		}
		list := []int{1, 2, 3, 6}
		if !sameList(impl.CoprimeNet(list), []int{14, 5, 3, 1}) || !sameList(impl.DivisorNet(list), []int{14, 9, 9, 7}) || !sameList(impl.SumNet(list), []int{2, 1, 0, 0}) {
			t.Errorf("nets of numbers of the turn %d are told otherwise", turn)
		}
		callTables([]int{1, 3, 2, 1, 0})
		callTables([]int{3, 0, 0})
		impl.TableOf(impl.ShapeNet(2, 6))
		impl.TableOf(triangle)
		impl.TablesMany(5)
		impl.TableAt(5, 77)
		table, ok := impl.TableOf([]int{8, 12, 2, 3})
		if !ok || !sameList(table, []int{1, 1, 0}) || !impl.TableOk(table) || !sameList(impl.TableNet(table), []int{8, 12, 2, 3}) || impl.TableNumber(table) != 3 || impl.TablesMany(3) != 6 {
			t.Errorf("tables of the turn %d are told otherwise", turn)
		}
		if table, ok = impl.TableAt(3, 4); !ok || !sameList(table, []int{2, 0, 0}) {
			t.Errorf("tables of the turn %d are counted otherwise", turn)
		}
		callTexts("paths 6 0-1 0-2 1-2")
		callTexts("6 0-1 0-2 1-2")
		callTexts("\x03\x06\x05\x03\x11")
		impl.NetText(triangle)
		impl.NetBytes(triangle)
		bytes := []byte{4, 2, 5, 10, 4, 25}
		fromText, told := impl.NetRead("4 0-1 1-2 2-3")
		fromBytes, ok := impl.NetFrom(bytes)
		if impl.NetText(path) != "4 0-1 1-2 2-3" || string(impl.NetBytes(path)) != string(bytes) || !told || !sameList(fromText, path) || !ok || !sameList(fromBytes, path) {
			t.Errorf("texts of the turn %d are told otherwise", turn)
		}
		checkLines(t, []string{"sides 4 0-1 1-2 2-3", "what", "span 4 0-1 1-2 2-3"}, []string{"5", "what", "3"}, 1)
		callNets(nil)
		callGraceful(nil)
		callCaterpillars(nil)
		callParted(nil, nil)
		impl.PartedMany(nil)
		callRound(nil, nil, 0)
		callHarmony(nil)
		callFriendly(nil)
		callSets(nil, 0)
		callNarrow(nil)
		callOrders(nil, nil)
		callChannels(nil)
		callStations(nil, nil)
		callNumbers(nil)
		impl.PrimeOk(nil, nil)
		impl.PrimeFirst(nil)
		callTables(nil)
		impl.TableOf(nil)
		impl.TablesMany(0)
		impl.TableAt(0, 0)
		callTexts("")
		impl.NetText(nil)
		impl.NetBytes(nil)
		if impl.SidesOf(triangle) != -1 || impl.MostNear(triangle) != 2 || impl.TreeOk(triangle) {
			t.Errorf("the turn %d answers otherwise", turn)
		}
	}
}
