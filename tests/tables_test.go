package tests

import (
	"testing"

	"loop.example/labelnets/impl"
)

// The table of constants.
func TestMostTable(t *testing.T) {
	if impl.MostTable != mostTable {
		t.Errorf("MostTable is %d", impl.MostTable)
	}
}

// badTables returns what is no table, for each reason that there is.
func badTables() [][]int {
	most := int(^uint(0) >> 1)
	tables := [][]int{
		nil,
		{},
		make([]int, mostTable+1),
		make([]int, mostTable+2),
		make([]int, 64),
		make([]int, 1000),
		{5, 4, 3, 2, 1, 0},
		turnedOf(ownOrder(70), 69),
		// One too great for its difference, at the first, a middle and the last place.
		{1},
		{2, 0},
		{0, 1},
		{3, 0, 0},
		{0, 2, 0},
		{0, 0, 1},
		{4, 0, 0, 0},
		{0, 3, 0, 0},
		{0, 0, 2, 0},
		{0, 0, 0, 1},
		{5, 0, 0, 0, 0},
		{0, 4, 0, 0, 0},
		{0, 0, 3, 0, 0},
		{0, 0, 0, 2, 0},
		{0, 0, 0, 0, 1},
		{4, 3, 2, 1, 1},
		// Choices in another order.
		{0, 1, 2, 3, 4},
		{0, 1, 2},
		{2, 0, 1, 0, 1},
	}
	for _, number := range []int{-1, -2, -mostTable, mostTable, mostTable + 1, 63, 64, 65, 1 << 32, -1 << 32, most, most - 1, -most, -most - 1} {
		tables = append(tables, []int{number}, []int{number, 0}, []int{0, number}, []int{1, number, 0}, []int{number, 0, 0, 0, 0}, []int{4, 3, number, 1, 0}, []int{4, 3, 2, 1, number})
	}
	return tables
}

// checkTable tells where a list is not told as is found another way, be it a table or not.
func checkTable(t *testing.T, list []int) {
	t.Helper()
	if !isChoices(list) {
		checkNoTable(t, list)
		return
	}
	if !impl.TableOk(list) {
		t.Errorf("TableOk(%v) is false", list)
	}
	if net, want := impl.TableNet(list), choicesTable(list).net(); !sameList(net, want) {
		t.Errorf("TableNet(%v) is %v, not %v", list, net, want)
	}
	ahead := 0
	for _, other := range choicesOf(len(list)) {
		if comesAhead(other, list) {
			ahead++
		}
	}
	if number := impl.TableNumber(list); number != ahead {
		t.Errorf("TableNumber(%v) is %d, not %d", list, number, ahead)
	}
}

// checkNoTable tells where what is no table has another result than the fixed one.
func checkNoTable(t *testing.T, list []int) {
	t.Helper()
	if impl.TableOk(list) {
		t.Errorf("TableOk(%v)", list)
	}
	if net := impl.TableNet(list); len(net) != 0 {
		t.Errorf("TableNet(%v) is %v", list, net)
	}
	if number := impl.TableNumber(list); number != -1 {
		t.Errorf("TableNumber(%v) is %d", list, number)
	}
}

// checkTableOf tells if a net has another table than the one that is wanted, or one, if none is.
func checkTableOf(t *testing.T, net []int, want []int) {
	t.Helper()
	if table, ok := impl.TableOf(net); ok != (len(want) > 0) || !sameList(table, want) {
		t.Errorf("TableOf(%v) is %v, %v, not %v", net, table, ok, want)
	}
}

// checkTableAt tells if a number has another table than the one that is wanted, or one, if none is.
func checkTableAt(t *testing.T, choices int, number int, want []int) {
	t.Helper()
	if table, ok := impl.TableAt(choices, number); ok != (len(want) > 0) || !sameList(table, want) {
		t.Errorf("TableAt(%d, %d) is %v, %v, not %v", choices, number, table, ok, want)
	}
}

// Promises 30, 32, 65 and 67: all tables, one after the other.
func TestAllTables(t *testing.T) {
	many := make([]int, mostTable+1)
	eachChoices(t, func(list []int, ahead int) {
		many[len(list)]++
		checkTable(t, list)
		checkTableOf(t, choicesTable(list).net(), list)
		checkTableAt(t, len(list), ahead, list)
		if number := impl.TableNumber(list); number != ahead {
			t.Errorf("TableNumber is %d, not %d", number, ahead)
		}
	})
	if !sameList(many, []int{0, 1, 2, 6, 24, 120}) {
		t.Errorf("there are so many tables: %v", many)
	}
}

// Promises 30, 32 and 67, told by numbers: a table, its net and its number.
func TestTablesByNumbers(t *testing.T) {
	cases := []struct {
		table  []int
		net    []int
		number int
	}{
		// One choice.
		{[]int{0}, []int{2, 1}, 0},
		// Two choices.
		{[]int{0, 0}, []int{6, 1, 1}, 0},
		{[]int{1, 0}, []int{4, 4, 3}, 1},
		// Three choices.
		{[]int{0, 0, 0}, []int{14, 1, 1, 1}, 0},
		{[]int{0, 1, 0}, []int{10, 9, 0, 3}, 1},
		{[]int{1, 0, 0}, []int{12, 4, 3, 1}, 2},
		{[]int{1, 1, 0}, []int{8, 12, 2, 3}, 3},
		{[]int{2, 0, 0}, []int{12, 0, 9, 5}, 4},
		{[]int{2, 1, 0}, []int{8, 8, 8, 7}, 5},
		// Four choices.
		{[]int{0, 0, 0, 0}, []int{30, 1, 1, 1, 1}, 0},
		{[]int{0, 0, 1, 0}, []int{22, 17, 1, 0, 3}, 1},
		{[]int{0, 1, 0, 0}, []int{26, 9, 0, 3, 1}, 2},
		{[]int{0, 1, 1, 0}, []int{18, 25, 0, 2, 3}, 3},
		{[]int{0, 2, 0, 0}, []int{26, 1, 16, 1, 5}, 4},
		{[]int{0, 2, 1, 0}, []int{18, 17, 16, 0, 7}, 5},
		{[]int{1, 0, 0, 0}, []int{28, 4, 3, 1, 1}, 6},
		{[]int{1, 0, 1, 0}, []int{20, 20, 3, 0, 3}, 7},
		{[]int{1, 1, 0, 0}, []int{24, 12, 2, 3, 1}, 8},
		{[]int{1, 1, 1, 0}, []int{16, 28, 2, 2, 3}, 9},
		{[]int{1, 2, 0, 0}, []int{24, 4, 18, 1, 5}, 10},
		{[]int{1, 2, 1, 0}, []int{16, 20, 18, 0, 7}, 11},
		{[]int{2, 0, 0, 0}, []int{28, 0, 9, 5, 1}, 12},
		{[]int{2, 0, 1, 0}, []int{20, 16, 9, 4, 3}, 13},
		{[]int{2, 1, 0, 0}, []int{24, 8, 8, 7, 1}, 14},
		{[]int{2, 1, 1, 0}, []int{16, 24, 8, 6, 3}, 15},
		{[]int{2, 2, 0, 0}, []int{24, 0, 24, 5, 5}, 16},
		{[]int{2, 2, 1, 0}, []int{16, 16, 24, 4, 7}, 17},
		{[]int{3, 0, 0, 0}, []int{28, 0, 1, 17, 9}, 18},
		{[]int{3, 0, 1, 0}, []int{20, 16, 1, 16, 11}, 19},
		{[]int{3, 1, 0, 0}, []int{24, 8, 0, 19, 9}, 20},
		{[]int{3, 1, 1, 0}, []int{16, 24, 0, 18, 11}, 21},
		{[]int{3, 2, 0, 0}, []int{24, 0, 16, 17, 13}, 22},
		{[]int{3, 2, 1, 0}, []int{16, 16, 16, 16, 15}, 23},
		// MostTable choices.
		{[]int{0, 0, 0, 0, 0}, []int{62, 1, 1, 1, 1, 1}, 0},
		{[]int{0, 0, 0, 1, 0}, []int{46, 33, 1, 1, 0, 3}, 1},
		{[]int{0, 0, 1, 0, 0}, []int{54, 17, 1, 0, 3, 1}, 2},
		{[]int{0, 0, 1, 1, 0}, []int{38, 49, 1, 0, 2, 3}, 3},
		{[]int{0, 0, 2, 1, 0}, []int{38, 33, 33, 0, 0, 7}, 5},
		{[]int{0, 1, 0, 0, 0}, []int{58, 9, 0, 3, 1, 1}, 6},
		{[]int{0, 1, 2, 1, 0}, []int{34, 41, 32, 2, 0, 7}, 11},
		{[]int{0, 2, 0, 0, 0}, []int{58, 1, 16, 1, 5, 1}, 12},
		{[]int{0, 3, 0, 0, 0}, []int{58, 1, 0, 33, 1, 9}, 18},
		{[]int{0, 3, 2, 1, 0}, []int{34, 33, 32, 32, 0, 15}, 23},
		{[]int{1, 0, 0, 0, 0}, []int{60, 4, 3, 1, 1, 1}, 24},
		{[]int{1, 0, 0, 1, 0}, []int{44, 36, 3, 1, 0, 3}, 25},
		{[]int{1, 1, 0, 0, 0}, []int{56, 12, 2, 3, 1, 1}, 30},
		{[]int{1, 3, 2, 1, 0}, []int{32, 36, 34, 32, 0, 15}, 47},
		{[]int{2, 0, 0, 0, 0}, []int{60, 0, 9, 5, 1, 1}, 48},
		{[]int{2, 0, 2, 1, 0}, []int{36, 32, 41, 4, 0, 7}, 53},
		{[]int{2, 2, 0, 0, 0}, []int{56, 0, 24, 5, 5, 1}, 60},
		{[]int{2, 3, 2, 1, 0}, []int{32, 32, 40, 36, 0, 15}, 71},
		{[]int{3, 0, 0, 0, 0}, []int{60, 0, 1, 17, 9, 1}, 72},
		{[]int{3, 0, 2, 1, 0}, []int{36, 32, 33, 16, 8, 7}, 77},
		{[]int{3, 1, 2, 1, 0}, []int{32, 40, 32, 18, 8, 7}, 83},
		{[]int{3, 2, 2, 1, 0}, []int{32, 32, 48, 16, 12, 7}, 89},
		{[]int{3, 3, 2, 1, 0}, []int{32, 32, 32, 48, 8, 15}, 95},
		{[]int{4, 0, 0, 0, 0}, []int{60, 0, 1, 1, 33, 17}, 96},
		{[]int{4, 0, 0, 1, 0}, []int{44, 32, 1, 1, 32, 19}, 97},
		{[]int{4, 0, 2, 1, 0}, []int{36, 32, 33, 0, 32, 23}, 101},
		{[]int{4, 1, 2, 1, 0}, []int{32, 40, 32, 2, 32, 23}, 107},
		{[]int{4, 2, 2, 1, 0}, []int{32, 32, 48, 0, 36, 23}, 113},
		{[]int{4, 3, 0, 0, 0}, []int{56, 0, 0, 33, 33, 25}, 114},
		{[]int{4, 3, 1, 1, 0}, []int{32, 48, 0, 32, 34, 27}, 117},
		{[]int{4, 3, 2, 0, 0}, []int{48, 0, 32, 32, 33, 29}, 118},
		{[]int{4, 3, 2, 1, 0}, []int{32, 32, 32, 32, 32, 31}, 119},
	}
	for _, c := range cases {
		if !impl.TableOk(c.table) {
			t.Errorf("TableOk(%v) is false", c.table)
		}
		if net := impl.TableNet(c.table); !sameList(net, c.net) {
			t.Errorf("TableNet(%v) is %v, not %v", c.table, net, c.net)
		}
		if number := impl.TableNumber(c.table); number != c.number {
			t.Errorf("TableNumber(%v) is %d, not %d", c.table, number, c.number)
		}
		checkTableOf(t, c.net, c.table)
		checkTableAt(t, len(c.table), c.number, c.table)
	}
}

// Promise 30.
func TestEachTableIsGracefulAsItStands(t *testing.T) {
	trees, others := make([]int, mostPlaces+1), make([]int, mostPlaces+1)
	eachChoices(t, func(list []int, ahead int) {
		net := impl.TableNet(list)
		if !impl.NetOk(net) || len(net) != len(list)+1 {
			t.Fatalf("TableNet is %v, which is no net of one place more", net)
		}
		if wires := impl.WiresOf(net); wires != len(list) {
			t.Errorf("TableNet is %v, of %d wires", net, wires)
		}
		own := ownOrder(len(net))
		if !impl.GracefulOk(net, own) || !isGraceful(tableOfNet(net).wires(), own) {
			t.Errorf("TableNet is %v, which is not graceful as it stands", net)
		}
		if table, ok := impl.TableOf(net); !ok || !sameList(table, list) {
			t.Errorf("TableOf(%v) is %v, %v", net, table, ok)
		}
		if impl.TreeOk(net) {
			trees[len(net)]++
		} else {
			others[len(net)]++
		}
	})
	if !sameList(trees, []int{0, 0, 1, 2, 4, 12, 40}) || !sameList(others, []int{0, 0, 0, 0, 2, 12, 80}) {
		t.Errorf("so many tables have trees, %v, and so many have others: %v", trees, others)
	}
}

// Promise 30: the wire of each difference begins at its choice.
func TestWiresBeginAtChoices(t *testing.T) {
	eachChoices(t, func(list []int, ahead int) {
		begun := make([]int, len(list))
		for _, wire := range impl.WireList(impl.TableNet(list)) {
			begun[wire[1]-wire[0]-1] += 1 + wire[0]
		}
		if !sameList(begun, movedOf(list, 1)) {
			t.Errorf("the wires begin at %v", movedOf(begun, -1))
		}
	})
}

// Promise 30: noughts make stars of the place 0, the greatest choices stars of the last place, and choices in the middle paths.
func TestTablesOfShapes(t *testing.T) {
	for choices := 1; choices <= mostTable; choices++ {
		star := impl.ShapeNet(2, choices+1)
		if net := impl.TableNet(make([]int, choices)); !sameList(net, star) {
			t.Errorf("TableNet of %d noughts is %v", choices, net)
		}
		greatestChoices := turnedOf(ownOrder(choices), choices-1)
		last := tableOfNet(star).renamed(turnedOf(ownOrder(choices+1), choices)).net()
		if net := impl.TableNet(greatestChoices); !sameList(net, last) {
			t.Errorf("TableNet(%v) is %v, not %v", greatestChoices, net, last)
		}
		var middle []int
		for left := choices - 1; left >= 0; left-- {
			middle = append(middle, left/2)
		}
		if net := impl.TableNet(middle); !impl.TreeOk(net) || impl.MostNear(net) > 2 {
			t.Errorf("TableNet(%v) is %v, which is no path", middle, net)
		}
	}
}

// Promise 31.
func TestNetsGracefulAsTheyStandHaveTables(t *testing.T) {
	some, none := make([]int, mostPlaces+1), make([]int, mostPlaces+1)
	byNet := make([]map[[mostPlaces]int][]int, mostPlaces+1)
	for places := 2; places <= mostPlaces; places++ {
		byNet[places] = choicesByNet(places - 1)
	}
	eachNet(t, func(net []int, table pairTable) {
		checkTableOf(t, net, byNet[len(net)][keyOf(table)])
		choices, ok := impl.TableOf(net)
		want := len(net) > 1 && impl.WiresOf(net) == len(net)-1 && impl.GracefulOk(net, ownOrder(len(net)))
		if ok != want || ok != table.standsGraceful() {
			t.Errorf("TableOf is %v, %v", choices, ok)
		}
		if ok {
			some[len(net)]++
			if made := impl.TableNet(choices); !impl.TableOk(choices) || !sameList(made, net) {
				t.Errorf("TableOf is %v, and its net %v", choices, made)
			}
		} else if impl.WiresOf(net) == len(net)-1 {
			none[len(net)]++
		}
	})
	if !sameList(some, []int{0, 0, 1, 2, 6, 24, 120}) || !sameList(none, []int{0, 1, 0, 1, 14, 186, 2883}) {
		t.Errorf("so many nets have a table, %v, and so many with one wire less than places have none: %v", some, none)
	}
}

// Promise 31, told by numbers: a net, its table, and how many rows make it graceful.
func TestNetsWithTablesByNumbers(t *testing.T) {
	cases := []struct {
		net   []int
		table []int
		many  int
	}{
		// One place, and two.
		{[]int{0}, nil, 1},
		{[]int{0, 0}, nil, 0},
		{[]int{2, 1}, []int{0}, 2},
		// Three places: each of the three paths, no wire, one alone, and the ring.
		{[]int{6, 1, 1}, []int{0, 0}, 4},
		{[]int{4, 4, 3}, []int{1, 0}, 4},
		{[]int{2, 5, 2}, nil, 4},
		{[]int{0, 0, 0}, nil, 0},
		{[]int{4, 0, 1}, nil, 0},
		{[]int{2, 1, 0}, nil, 0},
		{[]int{6, 5, 3}, nil, 12},
		// Trees that are graceful as they stand: stars from both ends, paths to and fro, and others.
		{[]int{14, 1, 1, 1}, []int{0, 0, 0}, 12},
		{[]int{8, 8, 8, 7}, []int{2, 1, 0}, 12},
		{[]int{12, 4, 3, 1}, []int{1, 0, 0}, 4},
		{[]int{8, 12, 2, 3}, []int{1, 1, 0}, 4},
		{[]int{24, 12, 2, 3, 1}, []int{1, 1, 0, 0}, 8},
		{[]int{16, 24, 8, 6, 3}, []int{2, 1, 1, 0}, 8},
		{[]int{48, 24, 8, 6, 3, 1}, []int{2, 1, 1, 0, 0}, 24},
		{[]int{32, 48, 24, 4, 6, 3}, []int{2, 2, 1, 1, 0}, 24},
		{[]int{62, 1, 1, 1, 1, 1}, []int{0, 0, 0, 0, 0}, 240},
		{[]int{32, 32, 32, 32, 32, 31}, []int{4, 3, 2, 1, 0}, 240},
		{[]int{56, 8, 8, 7, 1, 1}, []int{2, 1, 0, 0, 0}, 48},
		{[]int{32, 32, 48, 16, 12, 7}, []int{3, 2, 2, 1, 0}, 12},
		// Trees that are graceful by other rows alone: such as these with their places in another order.
		{[]int{2, 13, 2, 2}, nil, 12},
		{[]int{4, 4, 11, 4}, nil, 12},
		{[]int{2, 5, 10, 4}, nil, 4},
		{[]int{4, 12, 3, 2}, nil, 4},
		{[]int{2, 5, 10, 20, 8}, nil, 8},
		{[]int{8, 24, 16, 3, 6}, nil, 8},
		{[]int{2, 5, 10, 20, 40, 16}, nil, 24},
		{[]int{2, 61, 2, 2, 2, 2}, nil, 240},
		{[]int{8, 8, 8, 55, 8, 8}, nil, 240},
		{[]int{14, 49, 1, 1, 2, 2}, nil, 48},
		// Nets of several parts, with a ring of three or four places, or two rings.
		{[]int{10, 9, 0, 3}, []int{0, 1, 0}, 12},
		{[]int{12, 0, 9, 5}, []int{2, 0, 0}, 12},
		{[]int{26, 9, 0, 3, 1}, []int{0, 1, 0, 0}, 20},
		{[]int{20, 20, 3, 0, 3}, []int{1, 0, 1, 0}, 16},
		{[]int{22, 17, 1, 0, 3}, []int{0, 0, 1, 0}, 20},
		{[]int{26, 1, 16, 1, 5}, []int{0, 2, 0, 0}, 12},
		{[]int{46, 33, 1, 1, 0, 3}, []int{0, 0, 0, 1, 0}, 72},
		{[]int{42, 41, 0, 3, 0, 3}, []int{0, 1, 0, 1, 0}, 64},
		{[]int{56, 0, 0, 49, 9, 9}, []int{3, 3, 0, 0, 0}, 64},
		{[]int{48, 20, 2, 32, 3, 9}, []int{1, 3, 1, 0, 0}, 24},
		{[]int{58, 9, 0, 3, 1, 1}, []int{0, 1, 0, 0, 0}, 72},
		// Nets of several parts that are graceful by other rows alone.
		{[]int{6, 5, 3, 0}, nil, 12},
		{[]int{0, 12, 10, 6}, nil, 12},
		{[]int{6, 5, 11, 4, 0}, nil, 20},
		{[]int{10, 5, 10, 5, 0}, nil, 16},
		{[]int{6, 5, 11, 20, 8, 0}, nil, 28},
		{[]int{14, 13, 3, 3, 0, 0}, nil, 64},
		// Nets that no row makes graceful: a ring beside a wire, and a ring of five places beside a lone one.
		{[]int{10, 9, 16, 3, 4}, nil, 0},
		{[]int{12, 16, 9, 5, 2}, nil, 0},
		{[]int{18, 5, 10, 20, 9, 0}, nil, 0},
		{[]int{0, 40, 48, 18, 12, 6}, nil, 0},
		// One wire less, one wire more, and none.
		{[]int{12, 0, 1, 1}, nil, 0},
		{[]int{8, 4, 2, 1}, nil, 0},
		{[]int{14, 5, 3, 1}, nil, 20},
		{[]int{10, 9, 8, 7}, nil, 20},
		{[]int{24, 8, 0, 3, 1}, nil, 0},
		{[]int{24, 12, 10, 7, 1}, nil, 28},
		{[]int{48, 24, 0, 2, 3, 1}, nil, 0},
		{[]int{48, 24, 8, 22, 11, 1}, nil, 52},
		{[]int{0, 0, 0, 0, 0, 0}, nil, 0},
		// A difference twice: the least one, one in the middle, and the greatest but one.
		{[]int{10, 1, 8, 5}, nil, 4},
		{[]int{12, 8, 1, 3}, nil, 4},
		{[]int{26, 5, 2, 1, 1}, nil, 12},
		{[]int{22, 1, 17, 0, 5}, nil, 20},
		{[]int{26, 17, 0, 1, 3}, nil, 20},
		{[]int{58, 1, 0, 1, 33, 17}, nil, 72},
		{[]int{58, 1, 32, 1, 1, 5}, nil, 36},
		{[]int{54, 33, 1, 0, 1, 3}, nil, 72},
		{[]int{24, 48, 32, 1, 3, 6}, nil, 24},
		// All pairs of places.
		{[]int{14, 13, 11, 7}, nil, 48},
		{[]int{30, 29, 27, 23, 15}, nil, 0},
		{[]int{62, 61, 59, 55, 47, 31}, nil, 0},
	}
	for _, c := range cases {
		checkTableOf(t, c.net, c.table)
		if many := impl.GracefulMany(c.net); many != c.many {
			t.Errorf("%v has %d graceful rows, not %d", c.net, many, c.many)
		}
	}
}

// Promise 31: with its places in another order a net has a table just if it is graceful as it stands then; turned round it is so.
func TestPlacesOfTablesInAnotherOrder(t *testing.T) {
	some := make([]int, mostPlaces+1)
	eachChoices(t, func(list []int, ahead int) {
		table := choicesTable(list)
		eachUnlikeRow(len(table), len(table)-1, func(order []int) {
			renamed := table.renamed(order)
			choices, ok := impl.TableOf(renamed.net())
			if ok != renamed.standsGraceful() {
				t.Errorf("TableOf(%v) is %v, %v", renamed.net(), choices, ok)
			}
			if ok {
				some[len(table)]++
				checkTable(t, choices)
				if net := impl.TableNet(choices); !sameList(net, renamed.net()) {
					t.Errorf("TableOf(%v) is %v, and its net %v", renamed.net(), choices, net)
				}
			}
		})
		// Turned round each wire begins where it ended.
		turned := make([]int, len(list))
		for at, choice := range list {
			turned[at] = len(list) - 1 - at - choice
		}
		checkTableOf(t, table.renamed(turnedOf(ownOrder(len(table)), len(list))).net(), turned)
	})
	if !sameList(some, []int{0, 0, 2, 8, 56, 432, 5048}) {
		t.Errorf("in so many orders of places there are tables: %v", some)
	}
}

// Promise 31: a net with one wire less than places gets a table by each row that makes it graceful, if its places are called by the numbers of that row; as it stands it has none, unless its own numbers are such a row.
func TestGracefulRowsMakeTables(t *testing.T) {
	alone, none := 0, 0
	eachKindOfNet(t, func(net []int, table pairTable) {
		if len(net) < 2 || len(table.wires()) != len(net)-1 {
			return
		}
		rows := gracefulRowsOf(table)
		own := false
		for _, row := range rows {
			own = own || sameList(row, ownOrder(len(net)))
			renamed := table.renamed(row).net()
			if choices, ok := impl.TableOf(renamed); !ok || !sameList(impl.TableNet(choices), renamed) {
				t.Errorf("TableOf(%v) is %v, %v", renamed, choices, ok)
			}
		}
		if choices, ok := impl.TableOf(net); ok != own {
			t.Errorf("TableOf is %v, %v", choices, ok)
		}
		if len(rows) == 0 {
			none++
		} else if !own {
			alone++
		}
	})
	if alone == 0 || none == 0 {
		t.Errorf("%d nets are graceful by another row alone, and %d by none", alone, none)
	}
}

// Promise 31: with one wire less, or one wire more, a net that has a table has none.
func TestTablesWithOneWireLessOrMore(t *testing.T) {
	eachChoices(t, func(list []int, ahead int) {
		table := choicesTable(list)
		for place := range table {
			for other := range table[:place] {
				near := table[place][other]
				table[place][other] = !near
				table[other][place] = !near
				checkTableOf(t, table.net(), nil)
				table[place][other] = near
				table[other][place] = near
			}
		}
		checkTableOf(t, table.net(), list)
	})
}

// Promise 31: with one wire changed for another one a net that has a table has one just if the other one is as long; else a difference comes twice.
func TestTablesWithOneWireChanged(t *testing.T) {
	same, twice := 0, 0
	eachChoices(t, func(list []int, ahead int) {
		for _, wire := range choicesTable(list).wires() {
			long := wire[1] - wire[0]
			for lesser := range list {
				for greater := lesser + 1; greater <= len(list); greater++ {
					changed := choicesTable(list)
					if changed[lesser][greater] {
						continue
					}
					changed[wire[0]][wire[1]] = false
					changed[wire[1]][wire[0]] = false
					changed[lesser][greater] = true
					changed[greater][lesser] = true
					var want []int
					if greater-lesser == long {
						want = append(want, list...)
						want[long-1] = lesser
						same++
					} else {
						twice++
					}
					checkTableOf(t, changed.net(), want)
				}
			}
		}
	})
	if same == 0 || twice == 0 {
		t.Errorf("%d wires are as long, and %d are not", same, twice)
	}
}

// Promise 32.
func TestTablesAreCountedWithoutGaps(t *testing.T) {
	for choices := 1; choices <= mostTable; choices++ {
		many := impl.TablesMany(choices)
		came := make([]bool, len(choicesOf(choices)))
		for _, list := range choicesOf(choices) {
			number := impl.TableNumber(list)
			if number < 0 || number >= many || number >= len(came) || came[number] {
				t.Fatalf("TableNumber(%v) is %d, of %d tables", list, number, many)
			}
			came[number] = true
			if table, ok := impl.TableAt(choices, number); !ok || !sameList(table, list) {
				t.Errorf("TableAt(%d, %d) is %v, %v, not %v", choices, number, table, ok, list)
			}
		}
		for number := range came {
			if !came[number] {
				t.Errorf("no table of %d choices has the number %d", choices, number)
			}
		}
	}
}

// Promise 32: of two tables the one with the lesser choice at the first place where they differ has the lesser number.
func TestTablesComeInTheOrderOfTheirChoices(t *testing.T) {
	for choices := 1; choices <= mostTable; choices++ {
		lists := choicesOf(choices)
		for _, one := range lists {
			for _, other := range lists {
				if (impl.TableNumber(one) < impl.TableNumber(other)) != comesAhead(one, other) {
					t.Errorf("TableNumber(%v) is %d, and TableNumber(%v) is %d", one, impl.TableNumber(one), other, impl.TableNumber(other))
				}
			}
		}
	}
}

// Promise 32: a choice that is one more, be it the first one, one in the middle or the last but one, is worth as many tables as there are of all choices behind it.
func TestTablesThatDifferInOneChoice(t *testing.T) {
	behind := []int{1, 1, 2, 6, 24, 120}
	differ := make([]int, mostTable)
	eachChoices(t, func(list []int, ahead int) {
		for at := range list {
			more := append([]int{}, list...)
			more[at]++
			if !isChoices(more) {
				continue
			}
			differ[at]++
			worth := behind[len(list)-1-at]
			if number := impl.TableNumber(more); number != ahead+worth {
				t.Errorf("TableNumber(%v) is %d, which is not %d more", more, number, worth)
			}
			checkTableAt(t, len(list), ahead+worth, more)
		}
	})
	if !sameList(differ, []int{119, 109, 92, 60, 0}) {
		t.Errorf("so many tables differ by one in each choice: %v", differ)
	}
}

// Promise 32: what a choice is worth does not hang on the last one, which is always 0, nor on those ahead of it.
func TestFirstAndLastNumbers(t *testing.T) {
	for choices := 1; choices <= mostTable; choices++ {
		noughts := make([]int, choices)
		greatestChoices := turnedOf(ownOrder(choices), choices-1)
		last := impl.TablesMany(choices) - 1
		if number := impl.TableNumber(noughts); number != 0 {
			t.Errorf("TableNumber(%v) is %d", noughts, number)
		}
		if number := impl.TableNumber(greatestChoices); number != last {
			t.Errorf("TableNumber(%v) is %d, not %d", greatestChoices, number, last)
		}
		checkTableAt(t, choices, 0, noughts)
		checkTableAt(t, choices, last, greatestChoices)
		checkTableAt(t, choices, -1, nil)
		checkTableAt(t, choices, last+1, nil)
	}
}

// Promise 65.
func TestNoughtsAreATable(t *testing.T) {
	for choices := 0; choices <= 70; choices++ {
		noughts := make([]int, choices)
		if want := choices >= 1 && choices <= mostTable; impl.TableOk(noughts) != want {
			t.Errorf("TableOk of %d noughts is %v", choices, !want)
		}
		checkTable(t, noughts)
	}
	eachChoices(t, func(list []int, ahead int) {
		if !impl.TableOk(list) || list[len(list)-1] != 0 {
			t.Errorf("TableOk is %v, and the last choice %d", impl.TableOk(list), list[len(list)-1])
		}
		for _, wrong := range []int{-2, -1, 1, 2, len(list), mostTable} {
			changed := append([]int{}, list...)
			changed[len(list)-1] = wrong
			checkNoTable(t, changed)
		}
	})
}

// Promises 65, 30 and 32: of all lists of numbers around the right ones just those are tables that the document names.
func TestListsAreTablesOrNot(t *testing.T) {
	tables := make([]int, mostTable+3)
	for choices := 1; choices <= mostTable+2; choices++ {
		lowest, highest := -2, mostTable+2
		if choices >= mostTable {
			lowest, highest = -1, choices
		}
		if choices > mostTable+1 {
			lowest, highest = 0, 2
		}
		eachRow(choices, lowest, highest, func(list []int) {
			if impl.TableOk(list) {
				tables[choices]++
			}
			if isChoices(list) {
				checkTable(t, list)
			} else {
				checkNoTable(t, list)
			}
		})
	}
	if !sameList(tables, []int{0, 1, 2, 6, 24, 120, 0, 0}) {
		t.Errorf("so many lists are tables: %v", tables)
	}
}

// Promises 65, 30 and 32: one choice of a table is changed to one below 0, or to one that is too great for its difference.
func TestTablesWithOneChoiceChanged(t *testing.T) {
	most := int(^uint(0) >> 1)
	eachChoices(t, func(list []int, ahead int) {
		for at, choice := range list {
			changed := append([]int{}, list...)
			for _, wrong := range []int{-most - 1, -most, -1 << 32, -choice - 1, -1, len(list) - at, len(list) - at + 1, len(list) + 1, choice + len(list) - at, mostTable + 1, 63, 64, 64 + choice, 1<<32 + choice, most - at, most - 1, most} {
				changed[at] = wrong
				checkNoTable(t, changed)
			}
			// The greatest choice for its difference is right still.
			changed[at] = len(list) - 1 - at
			checkTable(t, changed)
		}
	})
}

// Promise 65: a table with one choice more or less is another one, or none, and so with a choice ahead of it.
func TestTablesOfAnotherLength(t *testing.T) {
	eachChoices(t, func(list []int, ahead int) {
		checkTable(t, list[1:])
		checkTable(t, list[:len(list)-1])
		for more := -1; more <= len(list)+1; more++ {
			checkTable(t, append([]int{more}, list...))
			checkTable(t, append(append([]int{}, list...), more))
		}
	})
}

// Promise 66.
func TestEachChoiceMoreIsAFactorMore(t *testing.T) {
	if many := impl.TablesMany(1); many != 1 {
		t.Errorf("TablesMany(1) is %d", many)
	}
	for choices := 2; choices <= mostTable; choices++ {
		if many := impl.TablesMany(choices); many != choices*impl.TablesMany(choices-1) {
			t.Errorf("TablesMany(%d) is %d, and of one less %d", choices, many, impl.TablesMany(choices-1))
		}
	}
	for choices, want := range []int{-1, 1, 2, 6, 24, 120, -1, -1} {
		if many := impl.TablesMany(choices); many != want {
			t.Errorf("TablesMany(%d) is %d, not %d", choices, many, want)
		}
	}
	for choices := 1; choices <= mostTable; choices++ {
		if many, want := impl.TablesMany(choices), len(choicesOf(choices)); many != want {
			t.Errorf("TablesMany(%d) is %d, but %d are found", choices, many, want)
		}
	}
}

// noTableSizes returns numbers of choices that no table has.
func noTableSizes() []int {
	most := int(^uint(0) >> 1)
	sizes := []int{-most - 1, -most, -1 << 32, -64, -mostTable, -2, -1, 0, 20, 21, 31, 32, 63, 64, 65, 1 << 32, 1<<32 + 1, 1<<32 + mostTable, most - 1, most}
	for size := mostTable + 1; size <= 2*mostTable; size++ {
		sizes = append(sizes, size)
	}
	return sizes
}

// Promise 66: numbers of choices that no table has.
func TestNoTablesOfSoManyChoices(t *testing.T) {
	for _, choices := range noTableSizes() {
		if many := impl.TablesMany(choices); many != -1 {
			t.Errorf("TablesMany(%d) is %d", choices, many)
		}
	}
}

// Promise 67.
func TestEachNumberHasItsTable(t *testing.T) {
	for choices := 1; choices <= mostTable; choices++ {
		var tables [][]int
		for number := 0; number < impl.TablesMany(choices); number++ {
			table, ok := impl.TableAt(choices, number)
			if !ok || !impl.TableOk(table) || len(table) != choices || impl.TableNumber(table) != number {
				t.Errorf("TableAt(%d, %d) is %v, %v", choices, number, table, ok)
			}
			tables = append(tables, table)
		}
		if !ascends(tables) || !sameLists(tables, choicesOf(choices), 0) {
			t.Errorf("the tables of %d choices are %v", choices, tables)
		}
	}
}

// Promise 67: numbers that no table has, of right and of wrong numbers of choices.
func TestNoTableHasSuchANumber(t *testing.T) {
	most := int(^uint(0) >> 1)
	for choices := 1; choices <= mostTable; choices++ {
		many := len(choicesOf(choices))
		for _, number := range []int{-most - 1, -most, -1 << 32, -many - 1, -many, -2, -1, many, many + 1, 2*many - 1, 2 * many, 1000, 1 << 32, 1<<32 + 1, most - 1, most} {
			checkTableAt(t, choices, number, nil)
		}
		for number := -10; number <= 1000; number++ {
			if number < 0 || number >= many {
				checkTableAt(t, choices, number, nil)
			}
		}
	}
	for _, choices := range noTableSizes() {
		for number := -10; number <= 1000; number++ {
			checkTableAt(t, choices, number, nil)
		}
		for _, number := range []int{-most - 1, -most, -1 << 32, 1 << 32, most - 1, most} {
			checkTableAt(t, choices, number, nil)
		}
	}
}

// Promises 30, 32 and 65: what is no table has the fixed result of each function.
func TestNoTables(t *testing.T) {
	for _, list := range badTables() {
		if isChoices(list) {
			t.Errorf("%v is a table", list)
		}
		checkNoTable(t, list)
	}
}

// Promise 31: what is no net has no table; nor has a lone place, nor a net of more places than there may be, though it has one wire of each difference.
func TestNoNetHasATable(t *testing.T) {
	for _, net := range badNets() {
		checkTableOf(t, net, nil)
	}
	checkTableOf(t, []int{0}, nil)
	for places := mostPlaces + 1; places <= 70; places++ {
		checkTableOf(t, make([]int, places), nil)
		first, last := make([]int, places), make([]int, places)
		for place := 1; place < places; place++ {
			first[0] |= 1 << place
			first[place] = 1
			last[places-1-place] = 1 << (places - 1)
			last[places-1] |= 1 << (place - 1)
		}
		checkTableOf(t, first, nil)
		checkTableOf(t, last, nil)
	}
}

// Promise 31: a net that has a table, and of which one neighbour does not know the other one, or one place is its own neighbour, or has one that is not there, is no net and has none.
func TestTablesOfWhatIsNoNet(t *testing.T) {
	eachChoices(t, func(list []int, ahead int) {
		net := choicesTable(list).net()
		for place := range net {
			for other := 0; other <= len(net); other++ {
				changed := append([]int{}, net...)
				if inSet(net[place], other) {
					changed[place] -= power(other)
				} else {
					changed[place] += power(other)
				}
				checkTableOf(t, changed, nil)
			}
			for _, wrong := range []int{-1, -net[place] - 1, 1 << 32, 1<<32 + net[place]} {
				changed := append([]int{}, net...)
				changed[place] = wrong
				checkTableOf(t, changed, nil)
			}
		}
	})
}
