package tests

import (
	"testing"

	"loop.example/labelnets/impl"
)

// badLists returns what no net is made of, for each reason that there is.
func badLists() [][]int {
	most := int(^uint(0) >> 1)
	lists := [][]int{
		nil,
		{},
		{1, 2, 3, 4, 5, 6, 7},
		{30, 29, 28, 27, 26, 25, 24},
		{2, 3, 5, 7, 11, 13, 17},
		{1, 2, 4, 8, 16, 30, 15, 5},
		make([]int, mostPlaces+1),
		make([]int, 1000),
		movedOf(ownOrder(mostLabel), 1),
		movedOf(ownOrder(70), 1),
		{1, 1},
		{30, 30},
		{2, 3, 2},
		{7, 7, 7, 7, 7, 7},
		{1, 2, 3, 4, 5, 1},
		{1, 2, 3, 4, 5, 6, 1},
	}
	for _, number := range []int{0, -1, -2, -mostLabel, mostLabel + 1, mostLabel + 2, 2 * mostLabel, 63, 64, 65, 1 << 32, 1<<32 + 1, -1 << 32, most, most - 1, -most, -most - 1} {
		lists = append(lists, []int{number}, []int{1, number}, []int{number, 1}, []int{2, number, 4}, []int{5, 10, 15, 20, 25, number}, []int{number, 6, 3, 2, 1, 30})
	}
	return lists
}

// checkNumbers tells where a list does not make the nets that are found another way.
func checkNumbers(t *testing.T, list []int) {
	t.Helper()
	if !isNumbers(list) {
		checkNoNumbers(t, list)
		return
	}
	if net, want := impl.CoprimeNet(list), coprimeTable(list).net(); !sameList(net, want) {
		t.Errorf("CoprimeNet(%v) is %v, not %v", list, net, want)
	}
	if net, want := impl.DivisorNet(list), divisorTable(list).net(); !sameList(net, want) {
		t.Errorf("DivisorNet(%v) is %v, not %v", list, net, want)
	}
	if net, want := impl.SumNet(list), sumTable(list).net(); !sameList(net, want) {
		t.Errorf("SumNet(%v) is %v, not %v", list, net, want)
	}
}

// checkNoNumbers tells where what no net is made of makes one.
func checkNoNumbers(t *testing.T, list []int) {
	t.Helper()
	if net := impl.CoprimeNet(list); len(net) != 0 {
		t.Errorf("CoprimeNet(%v) is %v", list, net)
	}
	if net := impl.DivisorNet(list); len(net) != 0 {
		t.Errorf("DivisorNet(%v) is %v", list, net)
	}
	if net := impl.SumNet(list); len(net) != 0 {
		t.Errorf("SumNet(%v) is %v", list, net)
	}
}

// checkPrime tells if PrimeOk does not say the same of a row as is found another way.
func checkPrime(t *testing.T, net []int, table pairTable, row []int) {
	t.Helper()
	if want := table.isPrime(row); impl.PrimeOk(net, row) != want {
		t.Errorf("PrimeOk(%v, %v) is %v", net, row, !want)
	}
}

// checkNoPrime tells if PrimeOk holds of what is no prime row of a net.
func checkNoPrime(t *testing.T, net []int, row []int) {
	t.Helper()
	if impl.PrimeOk(net, row) {
		t.Errorf("PrimeOk(%v, %v)", net, row)
	}
}

// checkPrimeFirst tells if PrimeFirst is not the first one of some rows in ascending order, or tells one where there is none.
func checkPrimeFirst(t *testing.T, net []int, rows [][]int) {
	t.Helper()
	row, ok := impl.PrimeFirst(net)
	if len(rows) == 0 {
		if ok || len(row) != 0 {
			t.Errorf("PrimeFirst(%v) is %v, %v", net, row, ok)
		}
		return
	}
	if !ok || !sameList(row, rows[0]) {
		t.Errorf("PrimeFirst(%v) is %v, %v, not %v", net, row, ok, rows[0])
	}
}

// areNeighbours reports whether two places are neighbours in a net.
func areNeighbours(net []int, place int, other int) bool {
	return inSet(net[place], other)
}

// Promises 26, 27 and 64: just the nets that one finds by looking for divisors, multiples and what is left, of all numbers, the lesser ones first.
func TestNetsOfAllNumbers(t *testing.T) {
	eachNumbers(t, mostPlaces, func(list []int) { checkNumbers(t, list) })
}

// Promises 26, 27 and 64: all nets of so many numbers have so many wires together.
func TestWiresOfAllNumbers(t *testing.T) {
	var lists, coprimes, divisors, sums [mostPlaces + 1]int
	eachNumbers(t, mostPlaces, func(list []int) {
		lists[len(list)]++
		coprimes[len(list)] += impl.WiresOf(impl.CoprimeNet(list))
		divisors[len(list)] += impl.WiresOf(impl.DivisorNet(list))
		sums[len(list)] += impl.WiresOf(impl.SumNet(list))
	})
	if !sameList(lists[:], []int{0, 30, 435, 4060, 27405, 142506, 593775}) {
		t.Errorf("there are so many lists: %v", lists)
	}
	if !sameList(coprimes[:], []int{0, 0, 277, 7756, 104706, 907452, 5671575}) {
		t.Errorf("CoprimeNet has so many wires: %v", coprimes)
	}
	if !sameList(divisors[:], []int{0, 0, 81, 2268, 30618, 265356, 1658475}) {
		t.Errorf("DivisorNet has so many wires: %v", divisors)
	}
	if !sameList(sums[:], []int{0, 0, 0, 210, 5670, 73710, 614250}) {
		t.Errorf("SumNet has so many wires: %v", sums)
	}
}

// Promises 26, 27 and 64: with its numbers in another order a list makes the same nets with their places called anew.
func TestNumbersInAnotherOrder(t *testing.T) {
	check := func(list []int, order []int) {
		moved := renamedRow(list, order)
		if net, want := impl.CoprimeNet(moved), tableOfNet(impl.CoprimeNet(list)).renamed(order).net(); !sameList(net, want) {
			t.Errorf("CoprimeNet(%v) is %v, not %v", moved, net, want)
		}
		if net, want := impl.DivisorNet(moved), tableOfNet(impl.DivisorNet(list)).renamed(order).net(); !sameList(net, want) {
			t.Errorf("DivisorNet(%v) is %v, not %v", moved, net, want)
		}
		if net, want := impl.SumNet(moved), tableOfNet(impl.SumNet(list)).renamed(order).net(); !sameList(net, want) {
			t.Errorf("SumNet(%v) is %v, not %v", moved, net, want)
		}
	}
	eachNumbers(t, 4, func(list []int) {
		for _, order := range someOrders(len(list)) {
			check(list, order)
		}
	})
	eachNumbers(t, 2, func(list []int) {
		eachUnlikeRow(len(list), len(list)-1, func(order []int) { check(list, order) })
	})
	for _, list := range [][]int{{1, 2, 3, 4, 5, 6}, {1, 3, 4, 7, 11, 18}, {2, 3, 6, 12, 24, 30}, {5, 6, 10, 15, 25, 30}, {1, 2, 4, 8, 16, 29}} {
		eachUnlikeRow(len(list), len(list)-1, func(order []int) { check(list, order) })
	}
	// All orders of numbers that are near to each other.
	for places := 1; places <= mostPlaces; places++ {
		eachUnlikeRow(places, 7, func(order []int) { checkNumbers(t, movedOf(order, 1)) })
	}
}

// Promises 26, 27 and 64, told by numbers.
func TestNetsOfNumbersByNumbers(t *testing.T) {
	cases := []struct {
		list    []int
		coprime []int
		divisor []int
		sum     []int
	}{
		// One number.
		{[]int{1}, []int{0}, []int{0}, []int{0}},
		{[]int{2}, []int{0}, []int{0}, []int{0}},
		{[]int{17}, []int{0}, []int{0}, []int{0}},
		{[]int{30}, []int{0}, []int{0}, []int{0}},
		// Two numbers: 1 and another one, a number and its double, such as have a common divisor, and such as do not.
		{[]int{1, 2}, []int{2, 1}, []int{2, 1}, []int{0, 0}},
		{[]int{2, 1}, []int{2, 1}, []int{2, 1}, []int{0, 0}},
		{[]int{1, 30}, []int{2, 1}, []int{2, 1}, []int{0, 0}},
		{[]int{30, 1}, []int{2, 1}, []int{2, 1}, []int{0, 0}},
		{[]int{2, 4}, []int{0, 0}, []int{2, 1}, []int{0, 0}},
		{[]int{15, 30}, []int{0, 0}, []int{2, 1}, []int{0, 0}},
		{[]int{30, 15}, []int{0, 0}, []int{2, 1}, []int{0, 0}},
		{[]int{4, 6}, []int{0, 0}, []int{0, 0}, []int{0, 0}},
		{[]int{9, 6}, []int{0, 0}, []int{0, 0}, []int{0, 0}},
		{[]int{2, 3}, []int{2, 1}, []int{0, 0}, []int{0, 0}},
		{[]int{8, 9}, []int{2, 1}, []int{0, 0}, []int{0, 0}},
		{[]int{29, 30}, []int{2, 1}, []int{0, 0}, []int{0, 0}},
		{[]int{25, 30}, []int{0, 0}, []int{0, 0}, []int{0, 0}},
		{[]int{7, 30}, []int{2, 1}, []int{0, 0}, []int{0, 0}},
		// The number 1 at the first, a middle and the last place.
		{[]int{1, 6, 4}, []int{6, 1, 1}, []int{6, 1, 1}, []int{0, 0, 0}},
		{[]int{6, 1, 4}, []int{2, 5, 2}, []int{2, 5, 2}, []int{0, 0, 0}},
		{[]int{6, 4, 1}, []int{4, 4, 3}, []int{4, 4, 3}, []int{0, 0, 0}},
		{[]int{1, 10, 15, 6}, []int{14, 1, 1, 1}, []int{14, 1, 1, 1}, []int{0, 0, 0, 0}},
		{[]int{10, 1, 15, 6}, []int{2, 13, 2, 2}, []int{2, 13, 2, 2}, []int{0, 0, 0, 0}},
		{[]int{10, 15, 6, 1}, []int{8, 8, 8, 7}, []int{8, 8, 8, 7}, []int{0, 0, 0, 0}},
		{[]int{1, 30, 29, 28, 27, 26}, []int{62, 5, 59, 21, 45, 21}, []int{62, 1, 1, 1, 1, 1}, []int{60, 0, 1, 1, 1, 1}},
		{[]int{30, 29, 1, 28, 27, 26}, []int{6, 61, 59, 22, 46, 22}, []int{4, 4, 59, 4, 4, 4}, []int{0, 4, 58, 4, 4, 4}},
		{[]int{30, 29, 28, 27, 26, 1}, []int{34, 61, 42, 54, 42, 31}, []int{32, 32, 32, 32, 32, 31}, []int{0, 32, 32, 32, 32, 30}},
		// Prime numbers.
		{[]int{2, 3, 5}, []int{6, 5, 3}, []int{0, 0, 0}, []int{2, 1, 0}},
		{[]int{2, 5, 7}, []int{6, 5, 3}, []int{0, 0, 0}, []int{2, 1, 0}},
		{[]int{11, 13, 2}, []int{6, 5, 3}, []int{0, 0, 0}, []int{4, 0, 1}},
		{[]int{2, 3, 5, 7, 11, 13}, []int{62, 61, 59, 55, 47, 31}, []int{0, 0, 0, 0, 0, 0}, []int{22, 1, 1, 0, 1, 0}},
		{[]int{29, 23, 19, 17, 13, 11}, []int{62, 61, 59, 55, 47, 31}, []int{0, 0, 0, 0, 0, 0}, []int{0, 0, 0, 0, 0, 0}},
		{[]int{1, 2, 3, 5, 7, 11}, []int{62, 61, 59, 55, 47, 31}, []int{62, 1, 1, 1, 1, 1}, []int{2, 13, 2, 2, 0, 0}},
		// Even numbers.
		{[]int{2, 4, 6}, []int{0, 0, 0}, []int{6, 1, 1}, []int{2, 1, 0}},
		{[]int{4, 6, 10}, []int{0, 0, 0}, []int{0, 0, 0}, []int{2, 1, 0}},
		{[]int{2, 4, 6, 8, 10, 12}, []int{0, 0, 0, 0, 0, 0}, []int{62, 41, 33, 3, 1, 7}, []int{30, 13, 3, 3, 1, 0}},
		{[]int{30, 28, 26, 24, 22, 20}, []int{0, 0, 0, 0, 0, 0}, []int{0, 0, 0, 0, 0, 0}, []int{0, 0, 0, 0, 0, 0}},
		{[]int{8, 12, 18, 20, 30, 28}, []int{0, 0, 0, 0, 0, 0}, []int{0, 0, 0, 0, 0, 0}, []int{10, 5, 2, 1, 0, 0}},
		// Powers of one number.
		{[]int{2, 4, 8, 16}, []int{0, 0, 0, 0}, []int{14, 13, 11, 7}, []int{0, 0, 0, 0}},
		{[]int{1, 2, 4, 8, 16}, []int{30, 1, 1, 1, 1}, []int{30, 29, 27, 23, 15}, []int{0, 0, 0, 0, 0}},
		{[]int{16, 2, 8, 1, 4}, []int{8, 8, 8, 23, 8}, []int{30, 29, 27, 23, 15}, []int{0, 0, 0, 0, 0}},
		{[]int{3, 9, 27}, []int{0, 0, 0}, []int{6, 5, 3}, []int{0, 0, 0}},
		{[]int{27, 1, 9, 3}, []int{2, 13, 2, 2}, []int{14, 13, 11, 7}, []int{0, 0, 0, 0}},
		{[]int{5, 25}, []int{0, 0}, []int{2, 1}, []int{0, 0}},
		// Numbers that divide one another in a chain.
		{[]int{2, 6, 30}, []int{0, 0, 0}, []int{6, 5, 3}, []int{0, 0, 0}},
		{[]int{30, 6, 2}, []int{0, 0, 0}, []int{6, 5, 3}, []int{0, 0, 0}},
		{[]int{3, 6, 12, 24}, []int{0, 0, 0, 0}, []int{14, 13, 11, 7}, []int{0, 0, 0, 0}},
		{[]int{24, 12, 4, 2, 1}, []int{16, 16, 16, 16, 15}, []int{30, 29, 27, 23, 15}, []int{0, 0, 0, 0, 0}},
		{[]int{1, 2, 6, 12, 24}, []int{30, 1, 1, 1, 1}, []int{30, 29, 27, 23, 15}, []int{0, 0, 0, 0, 0}},
		{[]int{5, 10, 30}, []int{0, 0, 0}, []int{6, 5, 3}, []int{0, 0, 0}},
		{[]int{6, 2, 12}, []int{0, 0, 0}, []int{6, 5, 3}, []int{0, 0, 0}},
		// Such as have common divisors, and do not divide one another.
		{[]int{6, 10, 15}, []int{0, 0, 0}, []int{0, 0, 0}, []int{0, 0, 0}},
		{[]int{4, 6, 9}, []int{4, 0, 1}, []int{0, 0, 0}, []int{0, 0, 0}},
		{[]int{12, 18, 30}, []int{0, 0, 0}, []int{0, 0, 0}, []int{2, 1, 0}},
		{[]int{4, 6, 9, 10, 15, 25}, []int{52, 32, 41, 4, 1, 7}, []int{0, 0, 0, 0, 0, 0}, []int{2, 5, 2, 16, 8, 0}},
		{[]int{8, 12, 18, 27}, []int{8, 0, 0, 1}, []int{0, 0, 0, 0}, []int{0, 0, 0, 0}},
		{[]int{14, 21, 6, 10, 15, 22}, []int{16, 40, 0, 2, 33, 18}, []int{0, 0, 0, 0, 0, 0}, []int{0, 0, 16, 0, 4, 0}},
		// Just some divide one another.
		{[]int{2, 3, 6, 12}, []int{2, 1, 0, 0}, []int{12, 12, 11, 7}, []int{0, 0, 0, 0}},
		{[]int{3, 2, 12, 6}, []int{2, 1, 0, 0}, []int{12, 12, 11, 7}, []int{0, 0, 0, 0}},
		{[]int{4, 6, 12, 18}, []int{0, 0, 0, 0}, []int{4, 12, 3, 2}, []int{0, 4, 2, 0}},
		{[]int{2, 3, 4, 6, 9, 12}, []int{18, 5, 18, 0, 5, 0}, []int{44, 56, 33, 35, 2, 15}, []int{4, 24, 1, 2, 2, 0}},
		{[]int{5, 7, 10, 14, 21, 30}, []int{26, 37, 18, 1, 5, 2}, []int{36, 24, 33, 2, 2, 5}, []int{0, 8, 0, 2, 0, 0}},
		{[]int{28, 14, 7, 3, 27, 9}, []int{56, 56, 56, 7, 7, 7}, []int{6, 5, 3, 48, 40, 24}, []int{0, 0, 0, 0, 0, 0}},
		// The same numbers in another order.
		{[]int{1, 2, 4, 9}, []int{14, 9, 9, 7}, []int{14, 5, 3, 1}, []int{0, 0, 0, 0}},
		{[]int{9, 4, 2, 1}, []int{14, 9, 9, 7}, []int{8, 12, 10, 7}, []int{0, 0, 0, 0}},
		{[]int{4, 1, 9, 2}, []int{6, 13, 11, 6}, []int{10, 13, 2, 3}, []int{0, 0, 0, 0}},
		{[]int{2, 9, 1, 4}, []int{6, 13, 11, 6}, []int{12, 4, 11, 5}, []int{0, 0, 0, 0}},
		{[]int{1, 2, 3, 4, 5, 6}, []int{62, 21, 27, 21, 47, 17}, []int{62, 41, 33, 3, 1, 7}, []int{30, 13, 3, 3, 1, 0}},
		{[]int{6, 5, 4, 3, 2, 1}, []int{34, 61, 42, 54, 42, 31}, []int{56, 32, 48, 33, 37, 31}, []int{0, 32, 48, 48, 44, 30}},
		{[]int{4, 1, 5, 2, 6, 3}, []int{38, 61, 59, 38, 6, 15}, []int{10, 61, 2, 19, 42, 18}, []int{10, 45, 2, 35, 0, 10}},
		{[]int{3, 5, 1, 6, 2, 4}, []int{54, 61, 59, 6, 7, 7}, []int{12, 4, 59, 21, 44, 20}, []int{20, 4, 51, 0, 37, 20}},
		// Sums that are one of the numbers.
		{[]int{1, 2, 3}, []int{6, 5, 3}, []int{6, 1, 1}, []int{2, 1, 0}},
		{[]int{3, 1, 2}, []int{6, 5, 3}, []int{2, 5, 2}, []int{0, 4, 2}},
		{[]int{2, 3, 1}, []int{6, 5, 3}, []int{4, 4, 3}, []int{4, 0, 1}},
		{[]int{1, 2, 3, 4}, []int{14, 5, 11, 5}, []int{14, 9, 1, 3}, []int{6, 1, 1, 0}},
		{[]int{4, 2, 6}, []int{0, 0, 0}, []int{2, 5, 2}, []int{2, 1, 0}},
		{[]int{6, 4, 2}, []int{0, 0, 0}, []int{4, 4, 3}, []int{0, 4, 2}},
		{[]int{1, 29, 30}, []int{6, 5, 3}, []int{6, 1, 1}, []int{2, 1, 0}},
		{[]int{14, 30, 16}, []int{0, 0, 0}, []int{0, 0, 0}, []int{4, 0, 1}},
		{[]int{10, 20, 30}, []int{0, 0, 0}, []int{6, 1, 1}, []int{2, 1, 0}},
		{[]int{5, 8, 13, 21}, []int{14, 13, 11, 7}, []int{0, 0, 0, 0}, []int{2, 5, 2, 0}},
		{[]int{1, 2, 3, 5, 8, 13}, []int{62, 45, 59, 55, 45, 31}, []int{62, 17, 1, 1, 3, 1}, []int{2, 5, 10, 20, 8, 0}},
		{[]int{13, 8, 5, 3, 2, 1}, []int{62, 45, 59, 55, 45, 31}, []int{32, 48, 32, 32, 34, 31}, []int{0, 4, 10, 20, 40, 16}},
		{[]int{2, 4, 6, 8, 10, 12}, []int{0, 0, 0, 0, 0, 0}, []int{62, 41, 33, 3, 1, 7}, []int{30, 13, 3, 3, 1, 0}},
		{[]int{7, 14, 21, 28}, []int{0, 0, 0, 0}, []int{14, 9, 1, 3}, []int{6, 1, 1, 0}},
		{[]int{1, 3, 4, 7, 11, 18}, []int{62, 29, 27, 55, 47, 25}, []int{62, 33, 1, 1, 1, 3}, []int{2, 5, 10, 20, 8, 0}},
		// Sums that are not, and such as are above MostLabel.
		{[]int{1, 3, 5}, []int{6, 5, 3}, []int{6, 1, 1}, []int{0, 0, 0}},
		{[]int{2, 5, 9}, []int{6, 5, 3}, []int{0, 0, 0}, []int{0, 0, 0}},
		{[]int{1, 2, 4, 8, 16}, []int{30, 1, 1, 1, 1}, []int{30, 29, 27, 23, 15}, []int{0, 0, 0, 0, 0}},
		{[]int{16, 17, 18}, []int{2, 5, 2}, []int{0, 0, 0}, []int{0, 0, 0}},
		{[]int{20, 25, 28}, []int{0, 4, 2}, []int{0, 0, 0}, []int{0, 0, 0}},
		{[]int{15, 16, 30}, []int{2, 1, 0}, []int{4, 0, 1}, []int{0, 0, 0}},
		{[]int{25, 26, 27, 28, 29, 30}, []int{30, 21, 27, 21, 47, 16}, []int{0, 0, 0, 0, 0, 0}, []int{0, 0, 0, 0, 0, 0}},
		{[]int{30, 1, 28}, []int{2, 5, 2}, []int{2, 5, 2}, []int{0, 0, 0}},
		{[]int{9, 10, 18, 20}, []int{10, 1, 0, 1}, []int{4, 8, 1, 2}, []int{0, 0, 0, 0}},
	}
	for _, c := range cases {
		if net := impl.CoprimeNet(c.list); !sameList(net, c.coprime) {
			t.Errorf("CoprimeNet(%v) is %v, not %v", c.list, net, c.coprime)
		}
		if net := impl.DivisorNet(c.list); !sameList(net, c.divisor) {
			t.Errorf("DivisorNet(%v) is %v, not %v", c.list, net, c.divisor)
		}
		if net := impl.SumNet(c.list); !sameList(net, c.sum) {
			t.Errorf("SumNet(%v) is %v, not %v", c.list, net, c.sum)
		}
	}
}

// Promise 26.
func TestWhoDividesADivisorDivides(t *testing.T) {
	chains, withOne := 0, 0
	eachNumbers(t, mostPlaces, func(list []int) {
		net := impl.DivisorNet(list)
		if !impl.NetOk(net) || len(net) != len(list) {
			t.Fatalf("DivisorNet is %v, which is no net of as many places", net)
		}
		coprime := impl.CoprimeNet(list)
		for place := range list {
			for other := range list {
				if areNeighbours(net, place, other) && areNeighbours(coprime, place, other) {
					withOne++
					if list[place] != 1 && list[other] != 1 {
						t.Errorf("%d and %d are neighbours in DivisorNet and in CoprimeNet", list[place], list[other])
					}
				}
				for third := range list {
					if place == other || other == third || !divides(list[place], list[other]) || !divides(list[other], list[third]) {
						continue
					}
					chains++
					if !areNeighbours(net, place, third) {
						t.Errorf("%d divides %d, and that %d, but DivisorNet is %v", list[place], list[other], list[third], net)
					}
				}
			}
		}
	})
	if chains == 0 || withOne == 0 {
		t.Errorf("there are %d chains, and %d neighbours with 1", chains, withOne)
	}
}

// Promise 26: all numbers of a chain are neighbours, in each order; and none of those that do not divide each other.
func TestChainsOfDivisors(t *testing.T) {
	for _, chain := range [][]int{{1, 2, 4, 8, 16}, {1, 3, 6, 12, 24}, {1, 2, 6, 30}, {3, 9, 27}, {2, 10, 20}, {1, 5, 15, 30}, {1, 29}, {15, 30}} {
		eachUnlikeRow(len(chain), len(chain)-1, func(order []int) {
			list := renamedRow(chain, order)
			if net := impl.DivisorNet(list); !sameList(net, impl.OtherNet(make([]int, len(list)))) {
				t.Errorf("DivisorNet(%v) is %v", list, net)
			}
		})
	}
	for _, others := range [][]int{{16, 17, 18, 19, 20, 21}, {25, 26, 27, 28, 29, 30}, {2, 3, 5, 7, 11, 13}, {4, 6, 9, 10, 14, 15}, {8, 12, 18, 20, 27, 30}} {
		eachUnlikeRow(len(others), len(others)-1, func(order []int) {
			list := renamedRow(others, order)
			if net := impl.DivisorNet(list); impl.WiresOf(net) != 0 {
				t.Errorf("DivisorNet(%v) is %v", list, net)
			}
		})
	}
}

// Promise 27.
func TestGreatestNumberIsAlone(t *testing.T) {
	wired := 0
	check := func(list []int) {
		net := impl.SumNet(list)
		if !impl.NetOk(net) || len(net) != len(list) {
			t.Fatalf("SumNet(%v) is %v, which is no net of as many places", list, net)
		}
		for place, number := range list {
			if number == greatest(list) && net[place] != 0 {
				t.Errorf("SumNet(%v) is %v: the greatest number has neighbours", list, net)
			}
		}
		if (impl.PartMany(net) == 1) != (len(list) == 1) {
			t.Errorf("SumNet(%v) has %d parts", list, impl.PartMany(net))
		}
		if impl.WiresOf(net) > 0 {
			wired++
		}
	}
	eachNumbers(t, mostPlaces, check)
	// The greatest number is not the last one only.
	for places := 1; places <= mostPlaces; places++ {
		eachUnlikeRow(places, 6, func(order []int) { check(movedOf(order, 1)) })
	}
	if wired == 0 {
		t.Error("no two numbers have a sum among them")
	}
}

// Promise 27: of each three numbers the two lesser ones are neighbours just if they are together the greatest one, in each order; a number and its double alone are never so.
func TestThreeNumbersAndTheirSums(t *testing.T) {
	for a := 1; a <= mostLabel; a++ {
		for b := a + 1; b <= mostLabel; b++ {
			if net := impl.SumNet([]int{a, b}); !sameList(net, []int{0, 0}) {
				t.Errorf("SumNet of %d and %d is %v", a, b, net)
			}
			for c := b + 1; c <= mostLabel; c++ {
				for _, list := range [][]int{{a, b, c}, {c, b, a}, {b, c, a}} {
					net := impl.SumNet(list)
					for place := range list {
						for other := range list {
							if want := place != other && list[place] != c && list[other] != c && a+b == c; areNeighbours(net, place, other) != want {
								t.Errorf("SumNet(%v) is %v", list, net)
							}
						}
					}
				}
			}
		}
	}
}

// Promise 64.
func TestEachNumberIsFriendsWithOne(t *testing.T) {
	with, without := 0, 0
	check := func(list []int) {
		net := impl.CoprimeNet(list)
		if !impl.NetOk(net) || len(net) != len(list) {
			t.Fatalf("CoprimeNet(%v) is %v, which is no net of as many places", list, net)
		}
		if !hasNumber(list, 1) {
			without++
		}
		for place, number := range list {
			if number != 1 {
				continue
			}
			with++
			for other := range list {
				if areNeighbours(net, place, other) != (place != other) {
					t.Errorf("CoprimeNet(%v) is %v: 1 has not all others as neighbours", list, net)
				}
			}
		}
	}
	eachNumbers(t, mostPlaces, check)
	// The number 1 at each place.
	eachNumbers(t, 3, func(list []int) {
		if hasNumber(list, 1) {
			return
		}
		for at := 0; at <= len(list); at++ {
			check(append(append(append([]int{}, list[:at]...), 1), list[at:]...))
		}
	})
	for places := 1; places <= mostPlaces; places++ {
		eachUnlikeRow(places, 6, func(order []int) { check(movedOf(order, 1)) })
	}
	if with == 0 || without == 0 {
		t.Errorf("%d lists have 1, and %d have not", with, without)
	}
}

// Promise 64: even numbers, and all multiples of one number, have no neighbours; prime numbers, and two that follow one another, have.
func TestNumbersWithDivisors(t *testing.T) {
	for factor := 2; factor <= 5; factor++ {
		list := []int{factor, 2 * factor, 3 * factor, 4 * factor, 5 * factor, 6 * factor}
		if net := impl.CoprimeNet(list); !sameList(net, make([]int, mostPlaces)) {
			t.Errorf("CoprimeNet(%v) is %v", list, net)
		}
	}
	for _, list := range [][]int{{2, 3, 5, 7, 11, 13}, {29, 23, 19, 17, 13, 11}, {4, 9, 25, 7, 11, 1}, {8, 27, 25, 29, 13, 7}, {30, 1, 29, 23, 7, 11}} {
		if net := impl.CoprimeNet(list); !sameList(net, []int{62, 61, 59, 55, 47, 31}) {
			t.Errorf("CoprimeNet(%v) is %v", list, net)
		}
	}
	for number := 1; number < mostLabel; number++ {
		if net := impl.CoprimeNet([]int{number + 1, number}); !sameList(net, []int{2, 1}) {
			t.Errorf("CoprimeNet of %d and %d is %v", number+1, number, net)
		}
	}
}

// Promise 28.
func TestEvenNumbersAreNoNeighbours(t *testing.T) {
	check := func(net []int, row []int) {
		if !impl.RowOnceOk(net, row) {
			t.Errorf("RowOnceOk is false of the prime row %v", row)
		}
		for place := range row {
			for other := range row {
				if areNeighbours(net, place, other) && row[place]%2 == 0 && row[other]%2 == 0 {
					t.Errorf("the places %d and %d are neighbours in the prime row %v", place, other, row)
				}
			}
		}
	}
	primes, others := 0, 0
	eachKindOfNet(t, func(net []int, table pairTable) {
		eachUnlikeRow(len(net), len(net)-1, func(order []int) {
			row := movedOf(order, 1)
			checkPrime(t, net, table, row)
			if !impl.PrimeOk(net, row) {
				others++
				return
			}
			primes++
			check(net, row)
		})
	})
	eachNet(t, func(net []int, table pairTable) {
		if row, ok := impl.PrimeFirst(net); ok {
			check(net, row)
		}
	})
	if primes == 0 || others == 0 {
		t.Errorf("%d rows are prime, and %d are not", primes, others)
	}
}

// Promise 28: two even numbers at any two neighbours of any net make a row none that is prime, whatever the others are.
func TestTwoEvenNumbersSideBySide(t *testing.T) {
	eachNet(t, func(net []int, table pairTable) {
		for _, wire := range table.wires() {
			if len(net) < 4 {
				continue
			}
			row := make([]int, len(net))
			row[wire[0]] = 2
			row[wire[1]] = 4
			left := []int{1, 3, 5, 6}
			for place := range row {
				if row[place] == 0 {
					row[place] = left[0]
					left = left[1:]
				}
			}
			checkNoPrime(t, net, row)
			row[wire[0]] = 4
			row[wire[1]] = 2
			checkNoPrime(t, net, row)
		}
	})
}

// Promises 28 and 64: a row of the numbers from 1 on is prime just of the nets that have no wires but those of CoprimeNet of it.
func TestPrimeRowsAreThoseOfCoprimeNets(t *testing.T) {
	eachKindOfNet(t, func(net []int, table pairTable) {
		eachUnlikeRow(len(net), len(net)-1, func(order []int) {
			row := movedOf(order, 1)
			coprime := impl.CoprimeNet(row)
			within := true
			for _, wire := range table.wires() {
				within = within && areNeighbours(coprime, wire[0], wire[1])
			}
			if impl.PrimeOk(net, row) != within {
				t.Errorf("PrimeOk(%v, %v) is %v, and CoprimeNet is %v", net, row, !within, coprime)
			}
		})
	})
}

// Promises 28, 29 and 64: the numbers from 1 on, in each order, are a prime row of the net that they make, and no row but the first one comes ahead of all.
func TestCoprimeNetsArePrime(t *testing.T) {
	for places := 1; places <= mostPlaces; places++ {
		eachUnlikeRow(places, places-1, func(order []int) {
			list := movedOf(order, 1)
			net := impl.CoprimeNet(list)
			if !impl.PrimeOk(net, list) {
				t.Errorf("PrimeOk(%v, %v) is false", net, list)
			}
			first, ok := impl.PrimeFirst(net)
			if !ok || !impl.PrimeOk(net, first) || comesAhead(list, first) {
				t.Errorf("PrimeFirst(%v) is %v, %v, and %v is prime", net, first, ok, list)
			}
		})
		own := movedOf(ownOrder(places), 1)
		if first, ok := impl.PrimeFirst(impl.CoprimeNet(own)); !ok || !sameList(first, own) {
			t.Errorf("PrimeFirst of CoprimeNet(%v) is %v, %v", own, first, ok)
		}
	}
}

// Promises 28 and 29: of all rows of numbers around the right ones just the prime ones are.
func TestRowsArePrimeOrNot(t *testing.T) {
	eachNetUpTo(t, 2, func(net []int, table pairTable) {
		eachRow(len(net), -mostLabel-3, mostLabel+3, func(row []int) { checkPrime(t, net, table, row) })
	})
	eachNetUpTo(t, 4, func(net []int, table pairTable) {
		eachRow(len(net), -1, len(net)+2, func(row []int) { checkPrime(t, net, table, row) })
	})
	for kind := 0; kind <= 2; kind++ {
		for places := 5; places <= mostPlaces; places++ {
			table := shapeTable(kind, places)
			net := table.net()
			eachRow(places, 0, places+1, func(row []int) {
				// There are many rows: of those of six places just such are taken as begin at one end.
				if places < mostPlaces || row[0] < 2 || row[0] > 6 {
					checkPrime(t, net, table, row)
				}
			})
		}
	}
}

// Promises 28 and 29: one number of a prime row is changed to each other one, and to such as no row has.
func TestPrimeRowsWithOneNumberChanged(t *testing.T) {
	most := int(^uint(0) >> 1)
	eachKindOfNet(t, func(net []int, table pairTable) {
		first, ok := impl.PrimeFirst(net)
		if !ok {
			first = movedOf(ownOrder(len(net)), 1)
		}
		for place := range first {
			row := append([]int{}, first...)
			for number := -2; number <= mostLabel+2; number++ {
				row[place] = number
				checkPrime(t, net, table, row)
			}
			for _, number := range []int{-most - 1, -most, -1 << 32, 63, 64, 1 << 32, 1<<32 + 1, most - 1, most} {
				row[place] = number
				checkNoPrime(t, net, row)
			}
		}
	})
}

// Promises 28 and 29: two numbers of a prime row are changed for each other.
func TestPrimeRowsWithTwoNumbersChanged(t *testing.T) {
	eachNet(t, func(net []int, table pairTable) {
		first, ok := impl.PrimeFirst(net)
		if !ok {
			first = movedOf(ownOrder(len(net)), 1)
		}
		for place := range first {
			for other := range first[:place] {
				row := append([]int{}, first...)
				row[place], row[other] = row[other], row[place]
				checkPrime(t, net, table, row)
			}
		}
	})
}

// Promises 28 and 29, told by numbers.
func TestPrimeOkByNumbers(t *testing.T) {
	cases := []struct {
		net  []int
		row  []int
		want bool
	}{
		// One place has just the number 1.
		{[]int{0}, []int{1}, true},
		{[]int{0}, []int{0}, false},
		{[]int{0}, []int{2}, false},
		{[]int{0}, []int{-1}, false},
		{[]int{0}, []int{30}, false},
		// Lone places have each order of the numbers, and no other ones.
		{[]int{0, 0}, []int{1, 2}, true},
		{[]int{0, 0}, []int{2, 1}, true},
		{[]int{0, 0}, []int{0, 1}, false},
		{[]int{0, 0}, []int{1, 3}, false},
		{[]int{0, 0}, []int{1, 1}, false},
		{[]int{0, 0}, []int{2, 2}, false},
		{[]int{0, 0, 0, 0}, []int{4, 2, 3, 1}, true},
		{[]int{0, 0, 0, 0}, []int{4, 2, 3, 2}, false},
		{[]int{0, 0, 0, 0, 0, 0}, []int{6, 4, 2, 3, 1, 5}, true},
		{[]int{0, 0, 0, 0, 0, 0}, []int{6, 4, 2, 3, 0, 5}, false},
		{[]int{0, 0, 0, 0, 0, 0}, []int{7, 4, 2, 3, 1, 5}, false},
		// One wire: even numbers at its ends, and others.
		{[]int{2, 1}, []int{1, 2}, true},
		{[]int{2, 1}, []int{2, 1}, true},
		{[]int{2, 1}, []int{1, 1}, false},
		{[]int{2, 1}, []int{2, 3}, false},
		{[]int{2, 1}, []int{0, 1}, false},
		{[]int{2, 1, 0, 0}, []int{2, 4, 1, 3}, false},
		{[]int{2, 1, 0, 0}, []int{4, 2, 1, 3}, false},
		{[]int{2, 1, 0, 0}, []int{2, 3, 4, 1}, true},
		{[]int{8, 0, 0, 1}, []int{2, 1, 3, 4}, false},
		{[]int{8, 0, 0, 1}, []int{4, 2, 1, 3}, true},
		{[]int{0, 0, 0, 0, 32, 16}, []int{1, 2, 4, 5, 3, 6}, false},
		{[]int{0, 0, 0, 0, 32, 16}, []int{1, 2, 4, 5, 6, 3}, false},
		{[]int{0, 0, 0, 0, 32, 16}, []int{1, 2, 3, 5, 4, 6}, false},
		{[]int{0, 0, 0, 0, 32, 16}, []int{2, 4, 6, 1, 3, 5}, true},
		// Paths.
		{[]int{2, 5, 2}, []int{1, 2, 3}, true},
		{[]int{2, 5, 2}, []int{2, 3, 1}, true},
		{[]int{2, 5, 2}, []int{2, 1, 3}, true},
		{[]int{2, 5, 2}, []int{1, 2, 2}, false},
		{[]int{2, 5, 10, 4}, []int{1, 2, 3, 4}, true},
		{[]int{2, 5, 10, 4}, []int{4, 3, 2, 1}, true},
		{[]int{2, 5, 10, 4}, []int{1, 2, 4, 3}, false},
		{[]int{2, 5, 10, 4}, []int{2, 1, 4, 3}, true},
		{[]int{2, 5, 10, 4}, []int{2, 3, 4, 1}, true},
		{[]int{2, 5, 10, 4}, []int{2, 4, 1, 3}, false},
		{[]int{2, 5, 10, 4}, []int{0, 1, 2, 3}, false},
		{[]int{2, 5, 10, 4}, []int{2, 3, 4, 5}, false},
		{[]int{2, 5, 10, 20, 8}, []int{1, 2, 3, 4, 5}, true},
		{[]int{2, 5, 10, 20, 8}, []int{1, 2, 5, 3, 4}, true},
		{[]int{2, 5, 10, 20, 8}, []int{3, 5, 1, 4, 2}, false},
		{[]int{2, 5, 10, 20, 40, 16}, []int{1, 2, 3, 4, 5, 6}, true},
		{[]int{2, 5, 10, 20, 40, 16}, []int{6, 5, 4, 3, 2, 1}, true},
		{[]int{2, 5, 10, 20, 40, 16}, []int{2, 3, 4, 1, 6, 5}, true},
		{[]int{2, 5, 10, 20, 40, 16}, []int{2, 1, 3, 6, 5, 4}, false},
		{[]int{2, 5, 10, 20, 40, 16}, []int{6, 1, 2, 3, 4, 5}, true},
		// Stars, and other trees.
		{[]int{6, 1, 1}, []int{1, 2, 3}, true},
		{[]int{6, 1, 1}, []int{2, 1, 3}, true},
		{[]int{14, 1, 1, 1}, []int{1, 2, 3, 4}, true},
		{[]int{14, 1, 1, 1}, []int{3, 1, 2, 4}, true},
		{[]int{14, 1, 1, 1}, []int{2, 1, 3, 4}, false},
		{[]int{14, 1, 1, 1}, []int{4, 1, 3, 2}, false},
		{[]int{62, 1, 1, 1, 1, 1}, []int{1, 2, 3, 4, 5, 6}, true},
		{[]int{62, 1, 1, 1, 1, 1}, []int{5, 6, 4, 3, 2, 1}, true},
		{[]int{62, 1, 1, 1, 1, 1}, []int{3, 1, 2, 4, 5, 6}, false},
		{[]int{62, 1, 1, 1, 1, 1}, []int{3, 6, 1, 2, 4, 5}, false},
		{[]int{2, 13, 2, 18, 8}, []int{2, 1, 4, 3, 5}, true},
		{[]int{2, 13, 2, 18, 8}, []int{2, 1, 3, 5, 4}, true},
		{[]int{2, 13, 2, 18, 8}, []int{2, 3, 4, 5, 1}, true},
		{[]int{2, 13, 2, 18, 8}, []int{2, 3, 1, 4, 5}, true},
		{[]int{6, 25, 33, 2, 2, 4}, []int{1, 5, 3, 4, 6, 2}, true},
		{[]int{6, 25, 33, 2, 2, 4}, []int{1, 5, 3, 2, 4, 6}, false},
		// Rings: the last place is a neighbour of the first one.
		{[]int{6, 5, 3}, []int{1, 2, 3}, true},
		{[]int{6, 5, 3}, []int{3, 1, 2}, true},
		{[]int{10, 5, 10, 5}, []int{1, 2, 3, 4}, true},
		{[]int{10, 5, 10, 5}, []int{2, 1, 3, 4}, false},
		{[]int{10, 5, 10, 5}, []int{2, 1, 4, 3}, true},
		{[]int{18, 5, 10, 20, 9}, []int{1, 2, 3, 4, 5}, true},
		{[]int{18, 5, 10, 20, 9}, []int{2, 1, 3, 5, 4}, false},
		{[]int{18, 5, 10, 20, 9}, []int{2, 1, 4, 3, 5}, true},
		{[]int{34, 5, 10, 20, 40, 17}, []int{1, 2, 3, 4, 5, 6}, true},
		{[]int{34, 5, 10, 20, 40, 17}, []int{6, 1, 2, 3, 4, 5}, true},
		{[]int{34, 5, 10, 20, 40, 17}, []int{2, 1, 4, 3, 5, 6}, false},
		{[]int{34, 5, 10, 20, 40, 17}, []int{3, 2, 1, 4, 5, 6}, false},
		{[]int{34, 5, 10, 20, 40, 17}, []int{3, 4, 1, 2, 5, 6}, false},
		{[]int{34, 5, 10, 20, 40, 17}, []int{2, 5, 6, 1, 4, 3}, true},
		// Other nets, and all pairs of places.
		{[]int{6, 5, 11, 4}, []int{2, 1, 3, 4}, true},
		{[]int{6, 5, 11, 4}, []int{2, 3, 1, 4}, true},
		{[]int{6, 5, 11, 4}, []int{2, 1, 4, 3}, false},
		{[]int{14, 13, 3, 3}, []int{1, 3, 2, 4}, true},
		{[]int{14, 13, 3, 3}, []int{1, 2, 3, 4}, false},
		{[]int{6, 5, 3}, []int{2, 3, 1}, true},
		{[]int{14, 13, 11, 7}, []int{1, 2, 3, 4}, false},
		{[]int{14, 13, 11, 7}, []int{2, 1, 4, 3}, false},
		{[]int{30, 29, 27, 23, 15}, []int{1, 2, 3, 4, 5}, false},
		{[]int{62, 61, 59, 55, 47, 31}, []int{1, 2, 3, 4, 5, 6}, false},
		{[]int{14, 13, 11, 7}, []int{1, 3, 5, 7}, false},
		// Parts do not see each other.
		{[]int{2, 1, 8, 4}, []int{1, 2, 3, 4}, true},
		{[]int{2, 1, 8, 4}, []int{2, 3, 4, 1}, true},
		{[]int{2, 1, 8, 4}, []int{2, 4, 1, 3}, false},
		{[]int{6, 5, 3, 48, 40, 24}, []int{1, 2, 3, 4, 5, 6}, false},
		{[]int{6, 5, 3, 48, 40, 24}, []int{1, 3, 4, 2, 5, 6}, false},
		{[]int{6, 1, 1, 48, 8, 8}, []int{3, 4, 2, 5, 6, 1}, true},
		{[]int{6, 1, 1, 48, 8, 8}, []int{3, 6, 2, 5, 4, 1}, false},
	}
	for _, c := range cases {
		if impl.PrimeOk(c.net, c.row) != c.want {
			t.Errorf("PrimeOk(%v, %v) is %v", c.net, c.row, !c.want)
		}
	}
}

// Promise 29.
func TestSmallTreesAndRingsArePrime(t *testing.T) {
	some, none := make([]int, mostPlaces+1), make([]int, mostPlaces+1)
	trees := make([]int, mostPlaces+1)
	eachNet(t, func(net []int, table pairTable) {
		row, ok := impl.PrimeFirst(net)
		if !ok {
			none[len(net)]++
			if len(row) != 0 {
				t.Errorf("PrimeFirst is %v, false", row)
			}
			if impl.TreeOk(net) {
				t.Error("a tree has no prime row")
			}
			return
		}
		some[len(net)]++
		if !impl.PrimeOk(net, row) || !table.isPrime(row) {
			t.Errorf("PrimeFirst is %v, which is not prime", row)
		}
		if impl.TreeOk(net) {
			trees[len(net)]++
		}
	})
	if !sameList(some, []int{0, 1, 2, 8, 63, 1023, 26829}) || !sameList(none, []int{0, 0, 0, 0, 1, 1, 5939}) {
		t.Errorf("so many nets have a prime row, %v, and so many have none: %v", some, none)
	}
	if !sameList(trees, []int{0, 1, 1, 3, 16, 125, 1296}) {
		t.Errorf("so many trees have a prime row: %v", trees)
	}
	for places := 3; places <= mostPlaces; places++ {
		ring := impl.ShapeNet(1, places)
		if row, ok := impl.PrimeFirst(ring); !ok || !impl.PrimeOk(ring, row) {
			t.Errorf("PrimeFirst of a ring of %d places is %v, %v", places, row, ok)
		}
	}
}

// Promise 29: paths, stars, rings and nets without wires have the numbers one after the other as their first prime row.
func TestFirstPrimeRowsOfShapes(t *testing.T) {
	for places := 1; places <= mostPlaces; places++ {
		own := movedOf(ownOrder(places), 1)
		checkPrimeFirst(t, make([]int, places), [][]int{own})
		checkPrimeFirst(t, impl.ShapeNet(0, places), [][]int{own})
		checkPrimeFirst(t, impl.ShapeNet(2, places), [][]int{own})
		if places >= 3 {
			checkPrimeFirst(t, impl.ShapeNet(1, places), [][]int{own})
		}
	}
	// All pairs of places are neighbours: from four places on two even numbers are.
	for places := 1; places <= mostPlaces; places++ {
		var rows [][]int
		if places < 4 {
			rows = append(rows, movedOf(ownOrder(places), 1))
		}
		checkPrimeFirst(t, impl.OtherNet(make([]int, places)), rows)
	}
}

// Promise 29, told by numbers: the first one, and how many there are.
func TestPrimeFirstByNumbers(t *testing.T) {
	cases := []struct {
		net   []int
		first []int
		many  int
	}{
		// One place, and lone ones.
		{[]int{0}, []int{1}, 1},
		{[]int{0, 0}, []int{1, 2}, 2},
		{[]int{0, 0, 0}, []int{1, 2, 3}, 6},
		{[]int{0, 0, 0, 0}, []int{1, 2, 3, 4}, 24},
		{[]int{0, 0, 0, 0, 0}, []int{1, 2, 3, 4, 5}, 120},
		{[]int{0, 0, 0, 0, 0, 0}, []int{1, 2, 3, 4, 5, 6}, 720},
		// One wire, beside lone places too.
		{[]int{2, 1}, []int{1, 2}, 2},
		{[]int{2, 1, 0}, []int{1, 2, 3}, 6},
		{[]int{0, 4, 2}, []int{1, 2, 3}, 6},
		{[]int{4, 0, 1}, []int{1, 2, 3}, 6},
		{[]int{0, 4, 2, 0}, []int{1, 2, 3, 4}, 20},
		{[]int{0, 8, 0, 2}, []int{1, 2, 4, 3}, 20},
		{[]int{0, 0, 8, 4}, []int{1, 2, 3, 4}, 20},
		{[]int{0, 8, 0, 2, 0}, []int{1, 2, 3, 5, 4}, 108},
		{[]int{0, 0, 0, 0, 32, 16}, []int{1, 2, 3, 4, 5, 6}, 528},
		{[]int{0, 32, 0, 0, 0, 2}, []int{1, 2, 3, 4, 6, 5}, 528},
		{[]int{0, 0, 32, 0, 0, 4}, []int{1, 2, 3, 4, 6, 5}, 528},
		{[]int{32, 0, 0, 0, 0, 1}, []int{1, 2, 3, 4, 5, 6}, 528},
		// Wires side by side.
		{[]int{2, 1, 8, 4}, []int{1, 2, 3, 4}, 16},
		{[]int{4, 8, 1, 2}, []int{1, 2, 4, 3}, 16},
		{[]int{8, 4, 2, 1}, []int{1, 2, 3, 4}, 16},
		{[]int{2, 1, 8, 4, 0}, []int{1, 2, 3, 4, 5}, 96},
		{[]int{4, 8, 1, 2, 0}, []int{1, 2, 3, 5, 4}, 96},
		{[]int{8, 16, 32, 1, 2, 4}, []int{1, 2, 3, 6, 5, 4}, 192},
		{[]int{32, 16, 8, 4, 2, 1}, []int{1, 2, 3, 4, 5, 6}, 192},
		{[]int{2, 1, 8, 4, 32, 16}, []int{1, 2, 3, 4, 5, 6}, 192},
		{[]int{4, 8, 1, 2, 32, 16}, []int{1, 2, 4, 3, 5, 6}, 192},
		// Paths.
		{[]int{2, 5, 2}, []int{1, 2, 3}, 6},
		{[]int{6, 1, 1}, []int{1, 2, 3}, 6},
		{[]int{4, 4, 3}, []int{1, 2, 3}, 6},
		{[]int{2, 5, 10, 4}, []int{1, 2, 3, 4}, 12},
		{[]int{4, 8, 9, 6}, []int{1, 2, 4, 3}, 12},
		{[]int{8, 12, 2, 3}, []int{1, 3, 2, 4}, 12},
		{[]int{2, 5, 10, 20, 8}, []int{1, 2, 3, 4, 5}, 72},
		{[]int{4, 8, 17, 18, 12}, []int{1, 2, 3, 5, 4}, 72},
		{[]int{2, 5, 10, 20, 40, 16}, []int{1, 2, 3, 4, 5, 6}, 72},
		{[]int{32, 24, 48, 2, 6, 5}, []int{1, 3, 5, 2, 4, 6}, 72},
		{[]int{16, 40, 32, 18, 9, 6}, []int{1, 2, 4, 5, 6, 3}, 72},
		// Stars, and other trees.
		{[]int{14, 1, 1, 1}, []int{1, 2, 3, 4}, 12},
		{[]int{8, 8, 8, 7}, []int{1, 2, 4, 3}, 12},
		{[]int{2, 13, 2, 2}, []int{1, 3, 2, 4}, 12},
		{[]int{30, 1, 1, 1, 1}, []int{1, 2, 3, 4, 5}, 72},
		{[]int{16, 16, 16, 16, 15}, []int{1, 2, 3, 4, 5}, 72},
		{[]int{2, 29, 2, 2, 2}, []int{1, 3, 2, 4, 5}, 72},
		{[]int{62, 1, 1, 1, 1, 1}, []int{1, 2, 3, 4, 5, 6}, 240},
		{[]int{32, 32, 32, 32, 32, 31}, []int{1, 2, 3, 4, 6, 5}, 240},
		{[]int{8, 8, 8, 55, 8, 8}, []int{1, 2, 3, 5, 4, 6}, 240},
		{[]int{2, 13, 2, 18, 8}, []int{1, 2, 3, 5, 4}, 72},
		{[]int{8, 24, 8, 7, 2}, []int{1, 2, 4, 3, 5}, 72},
		{[]int{6, 25, 33, 2, 2, 4}, []int{1, 3, 5, 2, 4, 6}, 104},
		{[]int{14, 49, 1, 1, 2, 2}, []int{1, 2, 4, 6, 3, 5}, 128},
		{[]int{2, 5, 42, 4, 32, 20}, []int{1, 2, 3, 4, 6, 5}, 96},
		{[]int{8, 16, 16, 17, 46, 16}, []int{1, 2, 3, 4, 5, 6}, 156},
		// Rings, alone and beside lone places.
		{[]int{6, 5, 3}, []int{1, 2, 3}, 6},
		{[]int{10, 5, 10, 5}, []int{1, 2, 3, 4}, 8},
		{[]int{12, 12, 3, 3}, []int{1, 3, 2, 4}, 8},
		{[]int{6, 9, 9, 6}, []int{1, 2, 4, 3}, 8},
		{[]int{18, 5, 10, 20, 9}, []int{1, 2, 3, 4, 5}, 60},
		{[]int{12, 24, 17, 3, 6}, []int{1, 2, 4, 3, 5}, 60},
		{[]int{34, 5, 10, 20, 40, 17}, []int{1, 2, 3, 4, 5, 6}, 24},
		{[]int{6, 5, 3, 0}, []int{1, 2, 3, 4}, 12},
		{[]int{0, 12, 10, 6}, []int{2, 1, 3, 4}, 12},
		{[]int{10, 5, 10, 5, 0}, []int{1, 2, 3, 4, 5}, 72},
		{[]int{0, 20, 10, 20, 10}, []int{1, 2, 3, 4, 5}, 72},
		{[]int{18, 5, 10, 20, 9, 0}, []int{1, 2, 3, 4, 5, 6}, 100},
		{[]int{0, 36, 10, 20, 40, 18}, []int{2, 1, 3, 4, 5, 6}, 100},
		{[]int{6, 5, 3, 0, 0, 0}, []int{1, 2, 3, 4, 5, 6}, 288},
		{[]int{0, 0, 0, 48, 40, 24}, []int{1, 2, 6, 3, 4, 5}, 288},
		// Other nets that have some.
		{[]int{6, 5, 11, 4}, []int{1, 2, 3, 4}, 8},
		{[]int{14, 13, 3, 3}, []int{1, 3, 2, 4}, 4},
		{[]int{12, 12, 11, 7}, []int{2, 4, 1, 3}, 4},
		{[]int{14, 5, 11, 5}, []int{1, 2, 3, 4}, 4},
		{[]int{28, 28, 3, 3, 3}, []int{1, 3, 2, 4, 5}, 48},
		{[]int{30, 29, 27, 7, 7}, []int{1, 3, 5, 2, 4}, 12},
		{[]int{14, 29, 27, 7, 6}, []int{1, 3, 5, 2, 4}, 24},
		{[]int{62, 5, 3, 33, 33, 25}, []int{1, 2, 3, 4, 6, 5}, 24},
		{[]int{58, 53, 10, 5, 3, 3}, []int{1, 3, 5, 6, 2, 4}, 24},
		{[]int{14, 13, 11, 7, 0}, []int{1, 2, 3, 5, 4}, 48},
		{[]int{0, 28, 26, 22, 14}, []int{2, 1, 3, 4, 5}, 48},
		{[]int{62, 61, 3, 3, 3, 3}, []int{1, 5, 2, 3, 4, 6}, 48},
		{[]int{14, 13, 11, 7, 0, 0}, []int{1, 2, 3, 5, 4, 6}, 96},
		{[]int{62, 5, 3, 17, 9, 1}, []int{1, 2, 3, 4, 5, 6}, 64},
		// Nets that have none: three even numbers have no three places that are no neighbours, or 3 has just 6 left.
		{[]int{6, 5, 3, 48, 40, 24}, nil, 0},
		{[]int{56, 56, 56, 7, 7, 7}, nil, 0},
		{[]int{62, 29, 27, 23, 15, 1}, nil, 0},
		{[]int{14, 13, 11, 7}, nil, 0},
		{[]int{30, 29, 27, 23, 15}, nil, 0},
		{[]int{62, 61, 59, 55, 47, 31}, nil, 0},
		{[]int{60, 60, 51, 51, 15, 15}, nil, 0},
		{[]int{30, 29, 27, 23, 15, 0}, nil, 0},
		{[]int{0, 60, 58, 54, 46, 30}, nil, 0},
		{[]int{62, 61, 59, 55, 15, 15}, nil, 0},
	}
	for _, c := range cases {
		row, ok := impl.PrimeFirst(c.net)
		if ok != (c.many > 0) || !sameList(row, c.first) {
			t.Errorf("PrimeFirst(%v) is %v, %v, not %v", c.net, row, ok, c.first)
		}
		many := 0
		eachUnlikeRow(len(c.net), len(c.net)-1, func(order []int) {
			if impl.PrimeOk(c.net, movedOf(order, 1)) {
				many++
			}
		})
		if many != c.many {
			t.Errorf("%v has %d prime rows, not %d", c.net, many, c.many)
		}
	}
}

// Promise 29: just the first one of the rows that one finds by trying; also of each kind with its places called anew.
func TestFirstPrimeRowsAreWhatIsFoundByTrying(t *testing.T) {
	several := 0
	eachKindOfNet(t, func(net []int, table pairTable) {
		rows := primeRowsOf(table)
		checkPrimeFirst(t, net, rows)
		if len(rows) > 1 {
			several++
		}
		for _, order := range someOrders(len(net)) {
			renamed := table.renamed(order)
			checkPrimeFirst(t, renamed.net(), primeRowsOf(renamed))
		}
	})
	if several == 0 {
		t.Error("no net has several prime rows")
	}
}

// Promise 29: a net without one of its wires has all prime rows that it had: so the first one does not come behind.
func TestPrimeRowsWithoutAWire(t *testing.T) {
	ahead, same, more := 0, 0, 0
	eachNet(t, func(net []int, table pairTable) {
		first, ok := impl.PrimeFirst(net)
		for _, wire := range table.wires() {
			without := wireless(net, wire[0], wire[1])
			row, found := impl.PrimeFirst(without)
			switch {
			case !ok && found:
				more++
			case !ok:
				continue
			case !found || comesAhead(first, row) || !impl.PrimeOk(without, first):
				t.Errorf("PrimeFirst is %v, and %v, %v without the wire %v", first, row, found, wire)
			case comesAhead(row, first):
				ahead++
			default:
				same++
			}
		}
	})
	if ahead == 0 || same == 0 || more == 0 {
		t.Errorf("without a wire the first prime row comes ahead %d times, is the same %d times, and is the first at all %d times", ahead, same, more)
	}
}

// Promises 26, 27 and 64: what no net is made of has the fixed result of each function.
func TestNoNumbersMakeANet(t *testing.T) {
	for _, list := range badLists() {
		if isNumbers(list) {
			t.Errorf("%v make nets", list)
		}
		checkNoNumbers(t, list)
	}
}

// Promises 26, 27 and 64: of all short lists of numbers around the right ones just those make nets.
func TestListsMakeNetsOrNot(t *testing.T) {
	eachRow(1, -mostLabel-3, 2*mostLabel+5, func(list []int) { checkNumbers(t, list) })
	eachRow(2, -3, mostLabel+4, func(list []int) { checkNumbers(t, list) })
	eachRow(3, -1, 9, func(list []int) { checkNumbers(t, list) })
	eachRow(3, mostLabel-8, mostLabel+2, func(list []int) { checkNumbers(t, list) })
	eachRow(4, 0, 7, func(list []int) { checkNumbers(t, list) })
	eachRow(5, 1, 5, func(list []int) { checkNumbers(t, list) })
	eachRow(6, 1, 5, func(list []int) { checkNoNumbers(t, list) })
}

// Promises 26, 27 and 64: one number of a list is changed, so that it makes no net any more: to one that is not in 1..mostLabel, or that is there already.
func TestNumbersWithOneChanged(t *testing.T) {
	most := int(^uint(0) >> 1)
	lists := [][]int{{30, 1, 15, 2, 17, 6}, {25, 26, 27, 28, 29, 30}}
	for number := 1; number <= mostLabel; number++ {
		var list []int
		for at := 0; at < mostPlaces; at++ {
			list = append(list, (number+7*at-1)%mostLabel+1)
		}
		lists = append(lists, list)
	}
	for _, whole := range lists {
		for places := 1; places <= mostPlaces; places++ {
			list := append([]int{}, whole[:places]...)
			checkNumbers(t, list)
			for at, number := range list {
				for _, wrong := range []int{-most - 1, -most, -1 << 32, -number, -1, 0, mostLabel + 1, mostLabel + 2, mostLabel + number, 63, 64, 64 + number, 1<<32 + number, most - 1, most} {
					list[at] = wrong
					checkNoNumbers(t, list)
				}
				for other, wrong := range list {
					if other != at {
						list[at] = wrong
						checkNoNumbers(t, list)
					}
				}
				list[at] = number
			}
		}
	}
}

// Promises 26, 27 and 64: lists of more numbers than there may be places, all of them right by themselves.
func TestMoreNumbersThanPlaces(t *testing.T) {
	for many := mostPlaces + 1; many <= mostLabel; many++ {
		for from := 1; from+many-1 <= mostLabel; from++ {
			list := movedOf(ownOrder(many), from)
			checkNoNumbers(t, list)
			checkNoNumbers(t, turnedOf(list, from+from+many-1))
			checkNumbers(t, list[:mostPlaces])
		}
	}
}

// Promises 28 and 29: rows of more or fewer numbers than places, and empty ones; also those that would be right of nets of as many places.
func TestPrimeRowsOfAnotherLength(t *testing.T) {
	eachKindOfNet(t, func(net []int, table pairTable) {
		for _, row := range [][]int{nil, {}, make([]int, 1000), movedOf(ownOrder(70), 1)} {
			checkNoPrime(t, net, row)
		}
		own := movedOf(ownOrder(len(net)), 1)
		for places := 1; places <= mostPlaces+2; places++ {
			if places == len(net) {
				continue
			}
			other := movedOf(ownOrder(places), 1)
			checkNoPrime(t, net, other)
			checkNoPrime(t, net, turnedOf(other, places+1))
			checkNoPrime(t, net, make([]int, places))
		}
		if first, ok := impl.PrimeFirst(net); ok {
			own = first
		}
		checkNoPrime(t, net, own[1:])
		checkNoPrime(t, net, own[:len(own)-1])
		checkNoPrime(t, net, append([]int{len(own) + 1}, own...))
		checkNoPrime(t, net, append(append([]int{}, own...), len(own)+1))
		checkNoPrime(t, net, append(append([]int{}, own...), 0))
		checkNoPrime(t, net, movedOf(own, -1))
		checkNoPrime(t, net, movedOf(own, 1))
	})
}

// Promises 28 and 29: what is no net has the fixed result of each function.
func TestNoNetIsPrime(t *testing.T) {
	for _, net := range badNets() {
		if row, ok := impl.PrimeFirst(net); ok || len(row) != 0 {
			t.Errorf("PrimeFirst(%v) is %v, %v", net, row, ok)
		}
		for places := 0; places <= mostPlaces+2; places++ {
			own := movedOf(ownOrder(places), 1)
			checkNoPrime(t, net, own)
			checkNoPrime(t, net, turnedOf(own, places+1))
			checkNoPrime(t, net, make([]int, places))
		}
		if len(net) < 1000 {
			checkNoPrime(t, net, movedOf(ownOrder(len(net)), 1))
		}
	}
	// Nets without wires of more places than there may be, up to more than a set has bits.
	for places := mostPlaces + 1; places <= 70; places++ {
		checkPrimeFirst(t, make([]int, places), nil)
		checkNoPrime(t, make([]int, places), movedOf(ownOrder(places), 1))
	}
}
