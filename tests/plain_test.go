package tests

import (
	"sort"
	"strconv"
	"strings"
	"testing"
)

// mostPlaces is MaxPlaces as the document has it: the tests do not follow impl, if it has another one.
const mostPlaces = 6

// mostLabel is MostLabel as the document has it.
const mostLabel = 30

// mostRing is MostRing as the document has it.
const mostRing = 31

// mostTable is MostTable as the document has it.
const mostTable = 5

// mostLine is MaxLine as the document has it.
const mostLine = 100

// The tests tell nets by tables of pairs, not by rows of bits, so that a slip with bits in impl is not made here, too.

// pairTable says for each two places whether they are neighbours.
type pairTable [][]bool

// pairsOf returns the table of as many places in which the pairs are neighbours whose digits in code are 1.
func pairsOf(places int, code int) pairTable {
	table := make(pairTable, places)
	for place := range table {
		table[place] = make([]bool, places)
	}
	for place := 0; place < places; place++ {
		for other := place + 1; other < places; other++ {
			table[place][other] = code%2 == 1
			table[other][place] = code%2 == 1
			code /= 2
		}
	}
	return table
}

// net returns the net of a table.
func (table pairTable) net() []int {
	net := make([]int, len(table))
	for place := range table {
		worth := 1
		for other := range table {
			if table[place][other] {
				net[place] += worth
			}
			worth *= 2
		}
	}
	return net
}

// wires returns the pairs of neighbours in ascending order.
func (table pairTable) wires() [][2]int {
	var wires [][2]int
	for place := range table {
		for other := place + 1; other < len(table); other++ {
			if table[place][other] {
				wires = append(wires, [2]int{place, other})
			}
		}
	}
	return wires
}

// nearMany returns how many neighbours a place has.
func (table pairTable) nearMany(place int) int {
	many := 0
	for other := range table {
		if table[place][other] {
			many++
		}
	}
	return many
}

// leasts returns for each place the least place of its part, by passing lesser ones on until nothing changes.
func (table pairTable) leasts() []int {
	least := make([]int, len(table))
	for place := range least {
		least[place] = place
	}
	for range table {
		for place := range table {
			for other := range table {
				if table[place][other] && least[other] < least[place] {
					least[place] = least[other]
				}
			}
		}
	}
	return least
}

// parts returns how many parts there are.
func (table pairTable) parts() int {
	many := 0
	for place, least := range table.leasts() {
		if place == least {
			many++
		}
	}
	return many
}

// sides returns the side that has the least place of each part, found by trying all sets; -1 if there is none.
func (table pairTable) sides() int {
	least := table.leasts()
	for set := 0; set < power(len(table)); set++ {
		if table.isSide(set, least) {
			return set
		}
	}
	return -1
}

func (table pairTable) isSide(set int, least []int) bool {
	for place := range table {
		if least[place] == place && !inSet(set, place) {
			return false
		}
		for other := range table {
			if table[place][other] && inSet(set, place) == inSet(set, other) {
				return false
			}
		}
	}
	return true
}

// power returns 2 multiplied so often, which is the number of all sets of so many places.
func power(places int) int {
	product := 1
	for ; places > 0; places-- {
		product *= 2
	}
	return product
}

// inSet reports whether a place is in a set told by a number.
func inSet(set int, place int) bool {
	return set/power(place)%2 == 1
}

// eachNet calls check with every net of 1..mostPlaces places, and its table.
func eachNet(t *testing.T, check func(net []int, table pairTable)) {
	t.Helper()
	eachNetUpTo(t, mostPlaces, check)
}

// eachNetUpTo calls check with every net of 1..most places, and its table.
func eachNetUpTo(t *testing.T, most int, check func(net []int, table pairTable)) {
	t.Helper()
	for places := 1; places <= most; places++ {
		for code := 0; code < power(places*(places-1)/2); code++ {
			table := pairsOf(places, code)
			check(table.net(), table)
			if t.Failed() {
				t.Fatalf("at the net %v", table.net())
			}
		}
	}
}

// badNets returns what is no net, for each reason that there is.
func badNets() [][]int {
	most := int(^uint(0) >> 1)
	return [][]int{
		nil,
		{},
		make([]int, mostPlaces+1),
		{2, 5, 10, 20, 40, 80, 32},
		make([]int, 1000),
		{1},
		{3, 1},
		{2, 3},
		{2, 5, 14, 4},
		{2, 5, 2, 4},
		{2, 0},
		{0, 1},
		{6, 1, 0},
		{4, 0, 0},
		{2},
		{2, 5},
		{4, 0},
		{64, 0, 0, 0, 0, 0},
		{-1},
		{-2, 1},
		{2, -1},
		{0, 0, -8},
		{-most - 1, 0},
		{most, most},
		{2, 1, 1 << 40},
	}
}

// sameList reports whether two lists have the same numbers.
func sameList(a []int, b []int) bool {
	if len(a) != len(b) {
		return false
	}
	for at := range a {
		if a[at] != b[at] {
			return false
		}
	}
	return true
}

// rowsOf returns rows of a net of so many places: noughts, the ends of 0..mostLabel, numbers up and down, with and without like ones, near to an end and far from both.
func rowsOf(places int) [][]int {
	whole := [][]int{
		{0, 0, 0, 0, 0, 0},
		{30, 30, 30, 30, 30, 30},
		{30, 0, 30, 0, 30, 0},
		{0, 1, 2, 3, 4, 5},
		{30, 29, 28, 27, 26, 25},
		{3, 9, 27, 19, 26, 16},
		{7, 11, 7, 22, 11, 7},
		{0, 12, 30, 5, 17, 12},
	}
	rows := make([][]int, len(whole))
	for at := range whole {
		rows[at] = append([]int{}, whole[at][:places]...)
	}
	return rows
}

// numbersAround returns all numbers by which rows are turned or moved, some more on both sides, and the ends of what an int holds.
func numbersAround() []int {
	most := int(^uint(0) >> 1)
	numbers := []int{-most - 1, -most, -most + mostLabel, -1 << 32, 1 << 32, most - mostLabel, most - 1, most}
	for number := -mostLabel - 3; number <= mostLabel+3; number++ {
		numbers = append(numbers, number)
	}
	return numbers
}

// least returns the least number of a row that is not empty.
func least(row []int) int {
	found := row[0]
	for _, number := range row {
		found = min(found, number)
	}
	return found
}

// greatest returns the greatest number of a row that is not empty.
func greatest(row []int) int {
	found := row[0]
	for _, number := range row {
		found = max(found, number)
	}
	return found
}

// unlike reports whether no two numbers of a row are the same, by comparing each two.
func unlike(row []int) bool {
	for place := range row {
		for other := range row[:place] {
			if row[place] == row[other] {
				return false
			}
		}
	}
	return true
}

// differencesOf returns for each pair of neighbours the greater number less the lesser one.
func differencesOf(table pairTable, row []int) []int {
	var list []int
	for _, wire := range table.wires() {
		a, b := row[wire[0]], row[wire[1]]
		list = append(list, max(a, b)-min(a, b))
	}
	return list
}

// sumsOf returns for each pair of neighbours the sum of both numbers.
func sumsOf(table pairTable, row []int) []int {
	var list []int
	for _, wire := range table.wires() {
		list = append(list, row[wire[0]]+row[wire[1]])
	}
	return list
}

// turnedOf returns a row with each number taken from most.
func turnedOf(row []int, most int) []int {
	var list []int
	for _, number := range row {
		list = append(list, most-number)
	}
	return list
}

// movedOf returns a row with each number more by a number.
func movedOf(row []int, by int) []int {
	var list []int
	for _, number := range row {
		list = append(list, number+by)
	}
	return list
}

// isGraceful reports whether the numbers of a row are unlike and in 0..the number of wires, and for each of 1..that number there is just one wire with this difference.
func isGraceful(wires [][2]int, row []int) bool {
	if least(row) < 0 || greatest(row) > len(wires) || !unlike(row) {
		return false
	}
	for difference := len(wires); difference >= 1; difference-- {
		many := 0
		for _, wire := range wires {
			a, b := row[wire[0]], row[wire[1]]
			if max(a, b)-min(a, b) == difference {
				many++
			}
		}
		if many != 1 {
			return false
		}
	}
	return true
}

// eachUnlikeRow calls check with every row of so many unlike numbers in 0..most, in ascending order.
func eachUnlikeRow(places int, most int, check func(row []int)) {
	row := make([]int, 0, places)
	used := make([]bool, most+1)
	var goOn func()
	goOn = func() {
		if len(row) == places {
			check(row)
			return
		}
		for number := range used {
			if used[number] {
				continue
			}
			used[number] = true
			row = append(row, number)
			goOn()
			row = row[:len(row)-1]
			used[number] = false
		}
	}
	goOn()
}

// gracefulRowsOf returns all graceful rows of a table in ascending order, found by trying all rows.
func gracefulRowsOf(table pairTable) [][]int {
	wires := table.wires()
	var rows [][]int
	eachUnlikeRow(len(table), len(wires), func(row []int) {
		if isGraceful(wires, row) {
			rows = append(rows, append([]int{}, row...))
		}
	})
	return rows
}

// isEven reports whether each place has an even number of neighbours.
func (table pairTable) isEven() bool {
	for place := range table {
		if table.nearMany(place)%2 == 1 {
			return false
		}
	}
	return true
}

// renamed returns the table in which each place is called as an order of all places says.
func (table pairTable) renamed(order []int) pairTable {
	other := pairsOf(len(table), 0)
	for _, wire := range table.wires() {
		a, b := order[wire[0]], order[wire[1]]
		other[a][b] = true
		other[b][a] = true
	}
	return other
}

// renamedRow returns the row in which each number is at the place as an order of all places says.
func renamedRow(row []int, order []int) []int {
	other := make([]int, len(row))
	for place := range row {
		other[order[place]] = row[place]
	}
	return other
}

// kindsOf returns one table of so many places of each kind: no two of them are the same with their places renamed, and each other one is one of them with its places renamed.
func kindsOf(places int) []pairTable {
	var kinds []pairTable
	told := map[[mostPlaces]int]bool{}
	for code := 0; code < power(places*(places-1)/2); code++ {
		table := pairsOf(places, code)
		if told[keyOf(table)] {
			continue
		}
		kinds = append(kinds, table)
		eachUnlikeRow(places, places-1, func(order []int) {
			told[keyOf(table.renamed(order))] = true
		})
	}
	return kinds
}

// keyOf returns the net of a table as a key of a map.
func keyOf(table pairTable) [mostPlaces]int {
	var key [mostPlaces]int
	copy(key[:], table.net())
	return key
}

// eachKindOfNet calls check with every net of less than mostPlaces places, and one of each kind of mostPlaces places, and its table: of so few nets all rows can be gone through.
func eachKindOfNet(t *testing.T, check func(net []int, table pairTable)) {
	t.Helper()
	eachNetUpTo(t, mostPlaces-1, check)
	for _, table := range kindsOf(mostPlaces) {
		check(table.net(), table)
		if t.Failed() {
			t.Fatalf("at the net %v", table.net())
		}
	}
}

// ascends reports whether each of some rows comes behind the one ahead of it, by the first numbers that differ.
func ascends(rows [][]int) bool {
	for at := 1; at < len(rows); at++ {
		if !comesAhead(rows[at-1], rows[at]) {
			return false
		}
	}
	return true
}

// comesAhead reports whether one row of as many numbers comes ahead of another one.
func comesAhead(a []int, b []int) bool {
	for at := range a {
		if a[at] != b[at] {
			return a[at] < b[at]
		}
	}
	return false
}

// isTree reports whether a table is one part, with one pair of neighbours less than places.
func (table pairTable) isTree() bool {
	return table.parts() == 1 && len(table.wires()) == len(table)-1
}

// backboneOf returns the backbone of a tree, found by trying all orders of the places with two neighbours or more, the least ones first; nil if none of them is a path.
func backboneOf(table pairTable) []int {
	var inner []int
	for place := range table {
		if table.nearMany(place) > 1 {
			inner = append(inner, place)
		}
	}
	if len(inner) == 0 {
		return []int{0}
	}
	var found []int
	eachUnlikeRow(len(inner), len(inner)-1, func(order []int) {
		var path []int
		for _, at := range order {
			path = append(path, inner[at])
		}
		if len(found) == 0 && table.isPath(path) {
			found = path
		}
	})
	return found
}

// isPath reports whether each place but the first one is a neighbour of the one ahead of it.
func (table pairTable) isPath(places []int) bool {
	for at := 1; at < len(places); at++ {
		if !table[places[at-1]][places[at]] {
			return false
		}
	}
	return true
}

// columnsOf returns the two columns of a tree with a backbone: each place is put by an earlier one of the backbone, or, if it is the first one of it, by none; those put by the same one stand with its legs ahead, and the next one of the backbone behind.
func columnsOf(table pairTable, backbone []int) ([]int, []int) {
	type stand struct{ by, leg, place int }
	var columns [2][]stand
	for at, place := range backbone {
		columns[at%2] = append(columns[at%2], stand{at - 1, 1, place})
		for other := range table {
			if table[place][other] && !hasNumber(backbone, other) {
				columns[(at+1)%2] = append(columns[(at+1)%2], stand{at, 0, other})
			}
		}
	}
	var lists [2][]int
	for at, column := range columns {
		sort.Slice(column, func(a, b int) bool {
			first, second := column[a], column[b]
			return comesAhead([]int{first.by, first.leg, first.place}, []int{second.by, second.leg, second.place})
		})
		for _, one := range column {
			lists[at] = append(lists[at], one.place)
		}
	}
	return lists[0], lists[1]
}

// hasNumber reports whether a number is in a list.
func hasNumber(list []int, number int) bool {
	for _, one := range list {
		if one == number {
			return true
		}
	}
	return false
}

// rowOfColumns returns the row that numbers the places of the first column from 0 up, and those of the second one downward from the last number: together they have all numbers from 0 on, as one finds them going down the first column and up the second one.
func rowOfColumns(first []int, second []int) []int {
	row := make([]int, len(first)+len(second))
	number := 0
	for _, place := range first {
		row[place] = number
		number++
	}
	for at := len(second) - 1; at >= 0; at-- {
		row[second[at]] = number
		number++
	}
	return row
}

// eachTree calls check with every net of 1..mostPlaces places that is a tree, and its table.
func eachTree(t *testing.T, check func(net []int, table pairTable)) {
	t.Helper()
	eachNet(t, func(net []int, table pairTable) {
		if table.isTree() {
			check(net, table)
		}
	})
}

// partedOf returns the least number that parts a row, found by trying all numbers from 0 on; -1 if none does, or the row is not graceful.
func partedOf(table pairTable, row []int) int {
	if len(row) != len(table) || !isGraceful(table.wires(), row) {
		return -1
	}
	for number := 0; number <= mostLabel; number++ {
		if isPartedBy(table.wires(), row, number) {
			return number
		}
	}
	return -1
}

// isPartedBy reports whether each wire has one end with at most a number, and one with more.
func isPartedBy(wires [][2]int, row []int, number int) bool {
	for _, wire := range wires {
		many := 0
		for _, place := range wire {
			if row[place] > number {
				many++
			}
		}
		if many != 1 {
			return false
		}
	}
	return true
}

// sidesTurnedOf returns a row with numbers in 0..most in which the least one that is at most parted has become the greatest of these, the next one the one below that, and so on, and those that are more likewise: found in a list of all numbers with both halves written backwards.
func sidesTurnedOf(row []int, most int, parted int) []int {
	var backwards []int
	for number := parted; number >= 0; number-- {
		backwards = append(backwards, number)
	}
	for number := most; number > parted; number-- {
		backwards = append(backwards, number)
	}
	var list []int
	for _, number := range row {
		list = append(list, backwards[number])
	}
	return list
}

// isOnRing reports whether a row has so many unlike numbers, all of them on a ring of as many numbers as there may be.
func isOnRing(places int, row []int, ring int) bool {
	if ring < 1 || ring > mostRing || len(row) != places {
		return false
	}
	return least(row) >= 0 && greatest(row) < ring && unlike(row)
}

// nextOn returns the number behind a number of a ring.
func nextOn(ring int, number int) int {
	if number == ring-1 {
		return 0
	}
	return number + 1
}

// steppedOf returns a row in which each number has gone on step by step, so often, on a ring.
func steppedOf(row []int, ring int, by int) []int {
	list := append([]int{}, row...)
	for ; by > 0; by-- {
		for place := range list {
			list[place] = nextOn(ring, list[place])
		}
	}
	return list
}

// stepsOn returns how many steps lead from one number of a ring on to another one.
func stepsOn(ring int, from int, to int) int {
	steps := 0
	for ; from != to; from = nextOn(ring, from) {
		steps++
	}
	return steps
}

// roundOf returns for each pair of neighbours the steps between their numbers on a ring, the fewer ones of those from the one on to the other one, and of those back.
func roundOf(table pairTable, row []int, ring int) []int {
	var list []int
	for _, wire := range table.wires() {
		a, b := row[wire[0]], row[wire[1]]
		list = append(list, min(stepsOn(ring, a, b), stepsOn(ring, b, a)))
	}
	return list
}

// pairCountsOf returns for each pair of numbers of a ring how often it is a wire of a row turned round, without turning it: one end of a wire comes to the lesser number just once, and the other end is on the greater one then just if it is as many steps ahead; and so the other way.
func pairCountsOf(table pairTable, row []int, ring int) []int {
	var steps []int
	for _, wire := range table.wires() {
		a, b := row[wire[0]], row[wire[1]]
		steps = append(steps, stepsOn(ring, a, b), stepsOn(ring, b, a))
	}
	var counts []int
	for lesser := 0; lesser < ring; lesser++ {
		for greater := lesser + 1; greater < ring; greater++ {
			many := 0
			for _, ahead := range steps {
				if ahead == greater-lesser {
					many++
				}
			}
			counts = append(counts, many)
		}
	}
	return counts
}

// areOnes reports whether all numbers of a list are 1.
func areOnes(list []int) bool {
	for _, number := range list {
		if number != 1 {
			return false
		}
	}
	return true
}

// pairsAlike returns how many pairs of places have the same number.
func pairsAlike(row []int) int {
	many := 0
	for place := range row {
		for other := range row[:place] {
			if row[place] == row[other] {
				many++
			}
		}
	}
	return many
}

// alikeOf returns how many pairs of places have the same number in a harmonious row: of a tree one, of others none.
func alikeOf(table pairTable) int {
	if table.isTree() {
		return 1
	}
	return 0
}

// isHarmonious reports whether the numbers of a row are on the ring of as many numbers as there are wires, as many pairs of them alike as may be, and no two sums meet on the ring: as none goes as far as twice round it, they meet if they are the same, or one is just once round further than the other.
func isHarmonious(wires [][2]int, alike int, row []int) bool {
	ring := len(wires)
	if ring == 0 || least(row) < 0 || greatest(row) >= ring || pairsAlike(row) != alike {
		return false
	}
	for at, wire := range wires {
		sum := row[wire[0]] + row[wire[1]]
		for _, other := range wires[:at] {
			another := row[other[0]] + row[other[1]]
			if sum == another || sum == another+ring || sum+ring == another {
				return false
			}
		}
	}
	return true
}

// harmoniousRowsOf returns all harmonious rows of a table in ascending order, found by trying all rows.
func harmoniousRowsOf(table pairTable) [][]int {
	wires := table.wires()
	alike := alikeOf(table)
	var rows [][]int
	keep := func(row []int) {
		if isHarmonious(wires, alike, row) {
			rows = append(rows, append([]int{}, row...))
		}
	}
	if alike > 0 && len(wires) > 0 {
		eachRow(len(table), 0, len(wires)-1, keep)
		sortRows(rows)
	} else {
		eachUnlikeRow(len(table), len(wires)-1, keep)
	}
	return rows
}

// sortRows puts rows of as many numbers in ascending order.
func sortRows(rows [][]int) {
	sort.Slice(rows, func(a, b int) bool { return comesAhead(rows[a], rows[b]) })
}

// haveDivisor reports whether a number that is not 0 and another one, neither below 0, have a common divisor but 1.
func haveDivisor(ring int, factor int) bool {
	for divisor := 2; divisor <= ring; divisor++ {
		if ring%divisor == 0 && factor%divisor == 0 {
			return true
		}
	}
	return false
}

// multipliedOf returns a row in which each number is gone so often from 0 on, step by step, and then some steps more, on a ring.
func multipliedOf(row []int, ring int, factor int, by int) []int {
	list := make([]int, len(row))
	for ; factor > 0; factor-- {
		for place := range list {
			for steps := row[place]; steps > 0; steps-- {
				list[place] = nextOn(ring, list[place])
			}
		}
	}
	return steppedOf(list, ring, by)
}

// membersOf returns for each place whether it is in a set told by a number, of which the digits are taken off one by one.
func membersOf(places int, set int) []bool {
	members := make([]bool, places)
	for place := range members {
		members[place] = set%2 == 1
		set /= 2
	}
	return members
}

// unlikeOf returns how many wires have just one end in a set: each of them leads from one place of it to one that is not in it.
func unlikeOf(table pairTable, members []bool) int {
	many := 0
	for place := range table {
		for other := range table {
			if members[place] && !members[other] && table[place][other] {
				many++
			}
		}
	}
	return many
}

// isBalanced reports whether half of all places are in a set, or half rounded up or down.
func isBalanced(members []bool) bool {
	many := 0
	for _, member := range members {
		if member {
			many++
		}
	}
	down := len(members) / 2
	up := len(members) - down
	return many == down || many == up
}

// gapBetween returns by how much so many of all wires, and all others, differ in number.
func gapBetween(wires int, many int) int {
	others := wires - many
	return max(many, others) - min(many, others)
}

// isFriendly reports whether a set is balanced, and the wires with just one end in it, and all others, differ by one at most.
func isFriendly(table pairTable, members []bool) bool {
	return isBalanced(members) && gapBetween(len(table.wires()), unlikeOf(table, members)) <= 1
}

// gapsOf returns all numbers by which the wires with just one end in a balanced set, and all others, differ, ascending: each number that there may be is looked for among all sets.
func gapsOf(table pairTable) []int {
	wires := len(table.wires())
	var met []int
	for set := 0; set < power(len(table)); set++ {
		if members := membersOf(len(table), set); isBalanced(members) {
			met = append(met, gapBetween(wires, unlikeOf(table, members)))
		}
	}
	var gaps []int
	for gap := 0; gap <= wires; gap++ {
		if hasNumber(met, gap) {
			gaps = append(gaps, gap)
		}
	}
	return gaps
}

// friendlySetsOf returns all friendly sets of a table, ascending.
func friendlySetsOf(table pairTable) []int {
	var sets []int
	for set := 0; set < power(len(table)); set++ {
		if isFriendly(table, membersOf(len(table), set)) {
			sets = append(sets, set)
		}
	}
	return sets
}

// mostUnlikeOf returns the greatest number of wires with just one end in a set: the sets without the last place will do, as all other places are as good as a set.
func mostUnlikeOf(table pairTable) int {
	most := 0
	for set := 0; set < power(len(table)-1); set++ {
		most = max(most, unlikeOf(table, membersOf(len(table), set)))
	}
	return most
}

// isOrder reports whether a row has each number from 0 on, as many as there are places, and no further number.
func isOrder(places int, row []int) bool {
	for number := 0; number < places; number++ {
		if !hasNumber(row, number) {
			return false
		}
	}
	return len(row) == places
}

// standing returns the table in which each place is called as the number it has in an order: so the places stand side by side, and a wire is as long as its ends are apart.
func (table pairTable) standing(order []int) pairTable {
	return table.renamed(order)
}

// widthOf returns how long the longest wire is of places that stand side by side: one looks for a wire from the greatest length downward.
func (table pairTable) widthOf() int {
	for steps := len(table) - 1; steps > 0; steps-- {
		for place := 0; place+steps < len(table); place++ {
			if table[place][place+steps] {
				return steps
			}
		}
	}
	return 0
}

// lengthOf returns how long all wires are together of places that stand side by side: they are counted by their lengths first.
func (table pairTable) lengthOf() int {
	length := 0
	for steps := 1; steps < len(table); steps++ {
		many := 0
		for place := steps; place < len(table); place++ {
			if table[place][place-steps] {
				many++
			}
		}
		length += steps * many
	}
	return length
}

// cutsOf returns how many wires go over each gap of places that stand side by side: all places ahead of the gap are a set, and the wires with just one end in it go over it.
func (table pairTable) cutsOf() []int {
	var cuts []int
	for many := 1; many < len(table); many++ {
		cuts = append(cuts, unlikeOf(table, membersOf(len(table), power(many)-1)))
	}
	return cuts
}

// cutOf returns how many wires go over one gap at most of places that stand side by side.
func (table pairTable) cutOf() int {
	most := 0
	for _, many := range table.cutsOf() {
		most = max(most, many)
	}
	return most
}

// narrowOf returns the least width, the least length and the least cut of all orders of a table, and the first order with the least width.
func narrowOf(table pairTable) ([]int, []int) {
	var widths, lengths, cuts []int
	var orders [][]int
	eachUnlikeRow(len(table), len(table)-1, func(order []int) {
		stood := table.standing(order)
		widths = append(widths, stood.widthOf())
		lengths = append(lengths, stood.lengthOf())
		cuts = append(cuts, stood.cutOf())
		orders = append(orders, append([]int{}, order...))
	})
	for at := range orders {
		if widths[at] == least(widths) {
			return []int{least(widths), least(lengths), least(cuts)}, orders[at]
		}
	}
	return nil, nil
}

// isRow reports whether a row has so many numbers, none of them below 0 or above mostLabel.
func isRow(places int, row []int) bool {
	return len(row) == places && least(row) >= 0 && greatest(row) <= mostLabel
}

// around returns the numbers that the neighbours of a place have.
func (table pairTable) around(place int, row []int) []int {
	var numbers []int
	for other := range table {
		if table[place][other] {
			numbers = append(numbers, row[other])
		}
	}
	return numbers
}

// areChannels reports whether around each place, of all numbers, none is that of the place, the one below or the one above it, and no two are the same.
func (table pairTable) areChannels(row []int) bool {
	for place := range table {
		numbers := table.around(place, row)
		for near := row[place] - 1; near <= row[place]+1; near++ {
			if hasNumber(numbers, near) {
				return false
			}
		}
		if !unlike(numbers) {
			return false
		}
	}
	return true
}

// apart returns by how much the channels of two places must differ at least.
func (table pairTable) apart(place int, other int) int {
	if table[place][other] {
		return 2
	}
	for middle := range table {
		if table[place][middle] && table[middle][other] {
			return 1
		}
	}
	return 0
}

// spanOf returns the least greatest channel, found by trying all orders of the places: the channels of each row go up in some order, and in each order they go up least if each one goes on just as far as all those ahead of it ask for.
func spanOf(table pairTable) int {
	fewest := 2 * mostPlaces
	channels := make([]int, len(table))
	eachUnlikeRow(len(table), len(table)-1, func(order []int) {
		channel := 0
		for at, place := range order {
			for _, other := range order[:at] {
				channel = max(channel, channels[other]+table.apart(place, other))
			}
			channels[place] = channel
		}
		fewest = min(fewest, channel)
	})
	return fewest
}

// firstChannelsOf returns the first row of channels in 0..span, found by counting up all rows with the last place going ahead; nil if there is none.
func firstChannelsOf(table pairTable, span int) []int {
	row := make([]int, len(table))
	for !table.areChannels(row) {
		at := len(row) - 1
		for at >= 0 && row[at] == span {
			row[at] = 0
			at--
		}
		if at < 0 {
			return nil
		}
		row[at]++
	}
	return row
}

// greedyOf returns a row in which the places of an order get the least channels, one after the other: those that have none yet have such meanwhile that are far from all others.
func greedyOf(table pairTable, order []int) []int {
	row := make([]int, len(table))
	for place := range row {
		row[place] = 1000 * (place + 1)
	}
	for _, place := range order {
		row[place] = 0
		for !table.areChannels(row) {
			row[place]++
		}
	}
	return row
}

// other returns the table in which just those pairs are neighbours that are not so in this one.
func (table pairTable) other() pairTable {
	other := pairsOf(len(table), power(len(table)*(len(table)-1)/2)-1)
	for _, wire := range table.wires() {
		other[wire[0]][wire[1]] = false
		other[wire[1]][wire[0]] = false
	}
	return other
}

// pathsOf returns the least number of paths that have all places, found by trying all sets of wires: each of those that are paths, places without wires among them, has as many paths as parts.
func pathsOf(table pairTable) int {
	fewest := len(table)
	wires := table.wires()
	for set := 0; set < power(len(wires)); set++ {
		chosen := pairsOf(len(table), 0)
		for at, member := range membersOf(len(wires), set) {
			if member {
				chosen[wires[at][0]][wires[at][1]] = true
				chosen[wires[at][1]][wires[at][0]] = true
			}
		}
		if chosen.arePaths() {
			fewest = min(fewest, chosen.parts())
		}
	}
	return fewest
}

// arePaths reports whether no place has more than two neighbours, and there is no ring: each wire joins two parts.
func (table pairTable) arePaths() bool {
	for place := range table {
		if table.nearMany(place) > 2 {
			return false
		}
	}
	return table.parts() == len(table)-len(table.wires())
}

// eachNumbers calls check with every list of 1..most unlike numbers in 1..mostLabel, the lesser ones first.
func eachNumbers(t *testing.T, most int, check func(list []int)) {
	t.Helper()
	var goOn func(list []int)
	goOn = func(list []int) {
		if len(list) > 0 {
			check(list)
			if t.Failed() {
				t.Fatalf("at the numbers %v", list)
			}
		}
		if len(list) == most {
			return
		}
		from := 1
		if len(list) > 0 {
			from = list[len(list)-1] + 1
		}
		for number := from; number <= mostLabel; number++ {
			goOn(append(list[:len(list):len(list)], number))
		}
	}
	goOn(nil)
}

// isNumbers reports whether a list has 1..mostPlaces numbers in 1..mostLabel, no two of them the same.
func isNumbers(list []int) bool {
	if len(list) == 0 || len(list) > mostPlaces {
		return false
	}
	return least(list) > 0 && greatest(list) <= mostLabel && unlike(list)
}

// divides reports whether a number that is more than 0 divides another one, which is looked for among its multiples.
func divides(number int, other int) bool {
	multiple := number
	for multiple < other {
		multiple += number
	}
	return multiple == other
}

// coprimeTable returns the table of numbers in which those are neighbours that have no divisor together but 1.
func coprimeTable(list []int) pairTable {
	table := pairsOf(len(list), 0)
	for place := range list {
		for other := range list {
			table[place][other] = place != other && !haveDivisor(list[place], list[other])
		}
	}
	return table
}

// divisorTable returns the table of numbers in which those are neighbours of which one is a multiple of the other one.
func divisorTable(list []int) pairTable {
	table := pairsOf(len(list), 0)
	for place := range list {
		for other := range list {
			if place != other && divides(list[place], list[other]) {
				table[place][other] = true
				table[other][place] = true
			}
		}
	}
	return table
}

// sumTable returns the table of numbers in which those are neighbours that are together one of them: each of them is taken apart into a number and what is left.
func sumTable(list []int) pairTable {
	table := pairsOf(len(list), 0)
	for _, whole := range list {
		for place, number := range list {
			for other, left := range list {
				if place != other && whole-number == left {
					table[place][other] = true
				}
			}
		}
	}
	return table
}

// isPrime reports whether a row has each number from 1 on, as many as there are places, no further one, and no neighbours with a divisor together but 1.
func (table pairTable) isPrime(row []int) bool {
	if !isOrder(len(table), movedOf(row, -1)) {
		return false
	}
	for _, wire := range table.wires() {
		if haveDivisor(row[wire[0]], row[wire[1]]) {
			return false
		}
	}
	return true
}

// primeRowsOf returns all prime rows of a table in ascending order, found by trying all orders.
func primeRowsOf(table pairTable) [][]int {
	var rows [][]int
	eachUnlikeRow(len(table), len(table)-1, func(order []int) {
		if row := movedOf(order, 1); table.isPrime(row) {
			rows = append(rows, row)
		}
	})
	return rows
}

// isChoices reports whether a list is a table of differences: each of its 1..mostTable choices is one of the places from which a wire as long as its difference ends at a place, too.
func isChoices(list []int) bool {
	if len(list) == 0 || len(list) > mostTable {
		return false
	}
	for at, choice := range list {
		if !hasNumber(ownOrder(len(list)-at), choice) {
			return false
		}
	}
	return true
}

// choicesOf returns all tables of differences of so many choices in ascending order: those of all orders of as many places, one behind the other, which tell for each place how many lesser numbers come behind its own one.
func choicesOf(many int) [][]int {
	var lists [][]int
	eachUnlikeRow(many, many-1, func(order []int) {
		list := make([]int, many)
		for place := range order {
			for behind := place + 1; behind < many; behind++ {
				if order[behind] < order[place] {
					list[place]++
				}
			}
		}
		lists = append(lists, list)
	})
	return lists
}

// eachChoices calls check with every table of differences, and how many of as many choices come ahead of it.
func eachChoices(t *testing.T, check func(list []int, ahead int)) {
	t.Helper()
	for many := 1; many <= mostTable; many++ {
		for ahead, list := range choicesOf(many) {
			check(list, ahead)
			if t.Failed() {
				t.Fatalf("at the table %v", list)
			}
		}
	}
}

// choicesTable returns the table of pairs of a table of differences: two places are neighbours if the lesser one is the choice for what they are apart.
func choicesTable(list []int) pairTable {
	table := pairsOf(len(list)+1, 0)
	for lesser := range table {
		for greater := lesser + 1; greater < len(table); greater++ {
			near := list[greater-lesser-1] == lesser
			table[lesser][greater] = near
			table[greater][lesser] = near
		}
	}
	return table
}

// choicesByNet returns all tables of differences of so many choices, each with its net as the key.
func choicesByNet(many int) map[[mostPlaces]int][]int {
	found := map[[mostPlaces]int][]int{}
	for _, list := range choicesOf(many) {
		found[keyOf(choicesTable(list))] = list
	}
	return found
}

// standsGraceful reports whether 2..mostPlaces places have one wire less, and there is one of each length.
func (table pairTable) standsGraceful() bool {
	return len(table) > 1 && len(table.wires()) == len(table)-1 && isGraceful(table.wires(), ownOrder(len(table)))
}

// text returns the text of a table: pieces with blanks between them.
func (table pairTable) text() string {
	pieces := []string{strconv.Itoa(len(table))}
	for _, wire := range table.wires() {
		pieces = append(pieces, strconv.Itoa(wire[0])+"-"+strconv.Itoa(wire[1]))
	}
	return strings.Join(pieces, " ")
}

// bytes returns the bytes of a table, with a sum that goes back to 0 whenever it comes to 251, step by step.
func (table pairTable) bytes() []byte {
	bytes := []byte{byte(len(table))}
	for _, set := range table.net() {
		bytes = append(bytes, byte(set))
	}
	return summed(bytes)
}

// summed returns bytes with their sum behind them.
func summed(bytes []byte) []byte {
	sum := 0
	for _, one := range bytes {
		for step := 0; step < int(one); step++ {
			sum++
			if sum == 251 {
				sum = 0
			}
		}
	}
	return append(append([]byte{}, bytes...), byte(sum))
}

// netsByText returns all nets, each with its text as the key.
func netsByText(t *testing.T) map[string][]int {
	t.Helper()
	nets := map[string][]int{}
	eachNet(t, func(net []int, table pairTable) { nets[table.text()] = net })
	return nets
}

// netsByBytes returns all nets, each with its bytes as the key.
func netsByBytes(t *testing.T) map[string][]int {
	t.Helper()
	nets := map[string][]int{}
	eachNet(t, func(net []int, table pairTable) { nets[string(table.bytes())] = net })
	return nets
}

// lineWords returns the words with which a line asks for a number of a net.
func lineWords() []string {
	return []string{"wires", "near", "sides", "legs", "friendly", "unlike", "width", "length", "cut", "span", "paths"}
}

// asked returns the number of a table that a word asks for; -1 if there is none.
func (table pairTable) asked(word string) int {
	switch word {
	case "wires":
		return len(table.wires())
	case "near":
		most := 0
		for place := range table {
			most = max(most, table.nearMany(place))
		}
		return most
	case "sides":
		return table.sides()
	case "legs":
		if backbone := backboneOf(table); table.isTree() && len(backbone) > 0 {
			return len(table) - len(backbone)
		}
	case "friendly":
		if sets := friendlySetsOf(table); len(sets) > 0 {
			return sets[0]
		}
	case "unlike":
		return mostUnlikeOf(table)
	case "width", "length", "cut":
		least, _ := narrowOf(table)
		return map[string]int{"width": least[0], "length": least[1], "cut": least[2]}[word]
	case "span":
		return spanOf(table)
	case "paths":
		return pathsOf(table)
	}
	return -1
}

// answerTo returns the answer to a line, if all nets are known by their texts.
func answerTo(line string, nets map[string][]int) string {
	word, text, blank := strings.Cut(line, " ")
	net, known := nets[text]
	if !blank || !known || len(line) > mostLine {
		return "what"
	}
	for _, one := range lineWords() {
		if one == word {
			return toldAs(tableOfNet(net).asked(word))
		}
	}
	return "what"
}

// toldAs returns how a number is told in an answer.
func toldAs(number int) string {
	if number == -1 {
		return "none"
	}
	return strconv.Itoa(number)
}

// eachEdit calls check with every text that one gets from a text by changing a byte for one of some others, putting one of these in, leaving one out, telling one twice, or changing two side by side for each other.
func eachEdit(text string, bytes string, check func(edited string)) {
	for at := 0; at <= len(text); at++ {
		for _, one := range []byte(bytes) {
			check(text[:at] + string([]byte{one}) + text[at:])
			if at < len(text) {
				check(text[:at] + string([]byte{one}) + text[at+1:])
			}
		}
		if at < len(text) {
			check(text[:at] + text[at+1:])
			check(text[:at+1] + text[at:])
		}
		if at+1 < len(text) {
			check(text[:at] + text[at+1:at+2] + text[at:at+1] + text[at+2:])
		}
	}
}

// allBytes returns a text that has each byte once.
func allBytes() string {
	var bytes []byte
	for one := 0; one < 256; one++ {
		bytes = append(bytes, byte(one))
	}
	return string(bytes)
}

// eachText calls check with every text of at most so many bytes, all of them some bytes.
func eachText(most int, bytes string, check func(text string)) {
	var goOn func(text []byte)
	goOn = func(text []byte) {
		check(string(text))
		if len(text) == most {
			return
		}
		for _, one := range []byte(bytes) {
			goOn(append(text, one))
		}
	}
	goOn(nil)
}
