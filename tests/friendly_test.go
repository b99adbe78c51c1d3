package tests

import (
	"testing"

	"loop.example/labelnets/impl"
)

// eachSet calls check with every net of 1..mostPlaces places, its table, and each of its sets.
func eachSet(t *testing.T, check func(net []int, table pairTable, set int)) {
	t.Helper()
	eachNet(t, func(net []int, table pairTable) {
		for set := 0; set < power(len(net)); set++ {
			check(net, table, set)
			if t.Failed() {
				t.Fatalf("at the set %d", set)
			}
		}
	})
}

// othersOf returns the set of all places of a net of so many that are not in a set.
func othersOf(places int, set int) int {
	return power(places) - 1 - set
}

// noSets returns numbers that tell no set of so many places: below 0, too great by little and by much, and such as tell one if what is too great of them is left off.
func noSets(places int) []int {
	most := int(^uint(0) >> 1)
	numbers := []int{-most - 1, -most, -1 << 32, 1 << 32, 1 << 40, most - 1, most}
	for set := 0; set < power(places); set++ {
		numbers = append(numbers, -1-set, power(places)+set, 2*power(places)+set, 1<<32+set, 1<<62+set, -most-1+set)
	}
	return numbers
}

// checkNoSet tells where what is no set of a net has not the fixed results.
func checkNoSet(t *testing.T, net []int, set int) {
	t.Helper()
	if got := impl.UnlikeWires(net, set); got != -1 {
		t.Errorf("UnlikeWires(%v, %d) is %d", net, set, got)
	}
	if impl.BalancedOk(net, set) {
		t.Errorf("BalancedOk(%v, %d)", net, set)
	}
	if impl.FriendlyOk(net, set) {
		t.Errorf("FriendlyOk(%v, %d)", net, set)
	}
}

// Promise 16.
func TestEachTreeIsFriendly(t *testing.T) {
	trees, wrongSize, rightSize := 0, 0, 0
	eachNet(t, func(net []int, table pairTable) {
		first := impl.FriendlyFirst(net)
		if first != -1 && !impl.FriendlyOk(net, first) {
			t.Errorf("FriendlyFirst is %d, which is not friendly", first)
		}
		if impl.TreeOk(net) {
			trees++
			if first == -1 {
				t.Error("a tree has no friendly set")
			}
		}
		if !impl.EvenOk(net) || impl.WiresOf(net) == 0 {
			return
		}
		if impl.WiresOf(net)%4 == 2 {
			wrongSize++
			if first != -1 {
				t.Errorf("FriendlyFirst is %d of an even net of %d wires", first, impl.WiresOf(net))
			}
		} else if first != -1 {
			rightSize++
		}
	})
	if trees != 1+1+3+16+125+1296 || wrongSize == 0 || rightSize == 0 {
		t.Errorf("%d trees, %d even nets of a wrong size, and %d others with friendly sets", trees, wrongSize, rightSize)
	}
}

// Promise 16: the least of all friendly sets that one finds by trying all sets.
func TestFriendlyFirstIsTheLeast(t *testing.T) {
	eachNet(t, func(net []int, table pairTable) {
		want := -1
		if sets := friendlySetsOf(table); len(sets) > 0 {
			want = sets[0]
		}
		if first := impl.FriendlyFirst(net); first != want {
			t.Errorf("FriendlyFirst is %d, not %d", first, want)
		}
	})
}

// Promises 16 to 18, told by numbers.
func TestFriendlyByNumbers(t *testing.T) {
	cases := []struct {
		net   []int
		first int
		gaps  []int
		most  int
	}{
		// Lone places: the least balanced set is friendly.
		{[]int{0}, 0, []int{0}, 0},
		{[]int{0, 0}, 1, []int{0}, 0},
		{[]int{0, 0, 0}, 1, []int{0}, 0},
		{[]int{0, 0, 0, 0}, 3, []int{0}, 0},
		{[]int{0, 0, 0, 0, 0}, 3, []int{0}, 0},
		{[]int{0, 0, 0, 0, 0, 0}, 7, []int{0}, 0},
		// One wire, beside lone places too.
		{[]int{2, 1}, 1, []int{1}, 1},
		{[]int{2, 1, 0}, 1, []int{1}, 1},
		{[]int{0, 4, 2}, 1, []int{1}, 1},
		{[]int{4, 0, 1}, 1, []int{1}, 1},
		{[]int{2, 1, 0, 0}, 3, []int{1}, 1},
		{[]int{0, 0, 8, 4}, 3, []int{1}, 1},
		{[]int{2, 1, 0, 0, 0}, 3, []int{1}, 1},
		{[]int{0, 0, 0, 0, 32, 16}, 7, []int{1}, 1},
		// Two and three wires side by side: two of four places have no friendly set, though they are not even.
		{[]int{2, 1, 8, 4}, -1, []int{2}, 2},
		{[]int{4, 8, 1, 2}, -1, []int{2}, 2},
		{[]int{2, 1, 8, 4, 0}, 7, []int{0, 2}, 2},
		{[]int{32, 16, 8, 4, 2, 1}, 13, []int{1, 3}, 3},
		// Paths.
		{[]int{2, 5, 2}, 1, []int{0, 2}, 2},
		{[]int{6, 1, 1}, 2, []int{0, 2}, 2},
		{[]int{2, 5, 10, 4}, 3, []int{1, 3}, 3},
		{[]int{4, 8, 9, 6}, 3, []int{1, 3}, 3},
		{[]int{2, 5, 10, 20, 8}, 6, []int{0, 2, 4}, 4},
		{[]int{2, 5, 10, 20, 40, 16}, 11, []int{1, 3, 5}, 5},
		{[]int{32, 24, 48, 2, 6, 5}, 11, []int{1, 3, 5}, 5},
		// Stars, and other trees.
		{[]int{14, 1, 1, 1}, 3, []int{1}, 3},
		{[]int{8, 8, 8, 7}, 3, []int{1}, 3},
		{[]int{30, 1, 1, 1, 1}, 6, []int{0, 2}, 4},
		{[]int{16, 16, 16, 16, 15}, 3, []int{0, 2}, 4},
		{[]int{62, 1, 1, 1, 1, 1}, 7, []int{1}, 5},
		{[]int{32, 32, 32, 32, 32, 31}, 7, []int{1}, 5},
		{[]int{2, 13, 2, 18, 8}, 3, []int{0, 2, 4}, 4},
		{[]int{2, 5, 42, 4, 32, 20}, 7, []int{1, 3, 5}, 5},
		// Rings, alone and beside lone places: that of six places is of a wrong size.
		{[]int{6, 5, 3}, 1, []int{1}, 2},
		{[]int{10, 5, 10, 5}, 3, []int{0, 4}, 4},
		{[]int{18, 5, 10, 20, 9}, 3, []int{1, 3}, 4},
		{[]int{34, 5, 10, 20, 40, 17}, -1, []int{2, 6}, 6},
		{[]int{6, 5, 3, 0}, 3, []int{1}, 2},
		{[]int{10, 5, 10, 5, 0}, 3, []int{0, 4}, 4},
		{[]int{6, 5, 3, 0, 0, 0}, 11, []int{1, 3}, 2},
		{[]int{18, 5, 10, 20, 9, 0}, 7, []int{1, 3}, 4},
		// Two rings are of a wrong size, too; a ring and a wire are not even.
		{[]int{6, 5, 3, 48, 40, 24}, -1, []int{2, 6}, 4},
		{[]int{6, 5, 3, 16, 8}, 3, []int{0, 2, 4}, 3},
		// Even nets of seven, ten, eight and twelve wires: just those of ten are of a wrong size.
		{[]int{30, 29, 3, 3, 3}, 5, []int{1, 5}, 6},
		{[]int{46, 45, 27, 23, 12, 3}, -1, []int{2, 6}, 8},
		{[]int{58, 53, 10, 5, 3, 3}, 13, []int{0, 4}, 6},
		{[]int{60, 60, 51, 51, 15, 15}, 21, []int{0, 4}, 8},
		// Other nets, with two sides and without.
		{[]int{6, 5, 11, 4}, 3, []int{0, 2}, 3},
		{[]int{14, 5, 11, 5}, 3, []int{1, 3}, 4},
		{[]int{62, 5, 3, 33, 33, 25}, 14, []int{0, 2, 4}, 6},
		{[]int{28, 28, 3, 3, 3}, 5, []int{0, 2, 6}, 6},
		{[]int{56, 56, 56, 7, 7, 7}, 11, []int{1, 9}, 9},
		{[]int{62, 61, 3, 3, 3, 3}, 13, []int{1, 3}, 8},
		{[]int{62, 29, 27, 23, 15, 1}, 14, []int{1, 3}, 7},
		// All pairs of places, beside lone ones too.
		{[]int{14, 13, 11, 7}, -1, []int{2}, 4},
		{[]int{30, 29, 27, 23, 15}, -1, []int{2}, 6},
		{[]int{62, 61, 59, 55, 47, 31}, -1, []int{3}, 9},
		{[]int{14, 13, 11, 7, 0, 0}, 7, []int{0, 2}, 4},
		{[]int{30, 29, 27, 23, 15, 0}, -1, []int{2}, 6},
	}
	for _, c := range cases {
		if first := impl.FriendlyFirst(c.net); first != c.first {
			t.Errorf("FriendlyFirst(%v) is %d, not %d", c.net, first, c.first)
		}
		if gaps := impl.FriendlyGaps(c.net); !sameList(gaps, c.gaps) {
			t.Errorf("FriendlyGaps(%v) are %v, not %v", c.net, gaps, c.gaps)
		}
		if most := impl.MostUnlike(c.net); most != c.most {
			t.Errorf("MostUnlike(%v) is %d, not %d", c.net, most, c.most)
		}
	}
}

// Promise 17.
func TestAllGapsAreEvenOrAllOdd(t *testing.T) {
	eachNet(t, func(net []int, table pairTable) {
		gaps := impl.FriendlyGaps(net)
		wires := impl.WiresOf(net)
		if len(gaps) == 0 {
			t.Error("there is no gap")
		}
		small := false
		for at, gap := range gaps {
			if gap < 0 || gap > wires || gap%2 != wires%2 {
				t.Errorf("a gap of %d with %d wires", gap, wires)
			}
			if at > 0 && gap <= gaps[at-1] {
				t.Errorf("FriendlyGaps are %v", gaps)
			}
			small = small || gap <= 1
		}
		if friendly := impl.FriendlyFirst(net) != -1; small != friendly {
			t.Errorf("FriendlyGaps are %v, and there is a friendly set: %v", gaps, friendly)
		}
	})
}

// Promise 17: just the gaps that one finds by trying all sets.
func TestGapsAreThoseFoundByTrying(t *testing.T) {
	eachNet(t, func(net []int, table pairTable) {
		want := gapsOf(table)
		if gaps := impl.FriendlyGaps(net); !sameList(gaps, want) {
			t.Errorf("FriendlyGaps are %v, not %v", gaps, want)
		}
	})
}

// Promise 18.
func TestHalfOfAllWiresCanBeUnlike(t *testing.T) {
	sided, others := 0, 0
	eachNet(t, func(net []int, table pairTable) {
		most := impl.MostUnlike(net)
		wires := impl.WiresOf(net)
		if 2*most < wires || most > wires {
			t.Errorf("MostUnlike is %d of %d wires", most, wires)
		}
		sides := impl.SidesOf(net)
		if (most == wires) != (sides != -1) {
			t.Errorf("MostUnlike is %d of %d wires, and SidesOf is %d", most, wires, sides)
		}
		if sides == -1 {
			others++
			return
		}
		sided++
		if many := impl.UnlikeWires(net, sides); many != wires {
			t.Errorf("%d of %d wires go from side to side", many, wires)
		}
	})
	if sided == 0 || others == 0 {
		t.Errorf("%d nets with two sides, and %d without", sided, others)
	}
}

// Promise 18: just the number that one finds by trying all sets.
func TestMostUnlikeIsThatFoundByTrying(t *testing.T) {
	eachNet(t, func(net []int, table pairTable) {
		if most, want := impl.MostUnlike(net), mostUnlikeOf(table); most != want {
			t.Errorf("MostUnlike is %d, not %d", most, want)
		}
	})
}

// Promise 18: of trees all wires, of rings all of an even number, and all pairs of places at best between two halves.
func TestMostUnlikeOfShapes(t *testing.T) {
	for places := 1; places <= mostPlaces; places++ {
		for _, kind := range []int{0, 2} {
			if most := impl.MostUnlike(shapeTable(kind, places).net()); most != places-1 {
				t.Errorf("MostUnlike is %d of the shape %d of %d places", most, kind, places)
			}
		}
		all := pairsOf(places, power(places*(places-1)/2)-1)
		half := places / 2
		if most := impl.MostUnlike(all.net()); most != half*(places-half) {
			t.Errorf("MostUnlike is %d of all pairs of %d places", most, places)
		}
	}
	for places := 3; places <= mostPlaces; places++ {
		if most := impl.MostUnlike(shapeTable(1, places).net()); most != places-places%2 {
			t.Errorf("MostUnlike is %d of the ring of %d places", most, places)
		}
	}
}

// Promise 56.
func TestBothSidesHaveTheSameWiresBetweenThem(t *testing.T) {
	eachNet(t, func(net []int, table pairTable) {
		isEven := impl.EvenOk(net)
		if many := impl.UnlikeWires(net, 0); many != 0 {
			t.Errorf("UnlikeWires is %d of no place", many)
		}
		if many := impl.UnlikeWires(net, othersOf(len(net), 0)); many != 0 {
			t.Errorf("UnlikeWires is %d of all places", many)
		}
		for set := 0; set < power(len(net)); set++ {
			many := impl.UnlikeWires(net, set)
			if others := impl.UnlikeWires(net, othersOf(len(net), set)); others != many {
				t.Errorf("UnlikeWires is %d of the set %d, and %d of all other places", many, set, others)
			}
			if isEven && many%2 != 0 {
				t.Errorf("UnlikeWires is %d of the set %d of an even net", many, set)
			}
		}
	})
}

// Promises 56 to 58: each set is answered as the document names it.
func TestSetsAreAnsweredAsTold(t *testing.T) {
	eachSet(t, func(net []int, table pairTable, set int) {
		members := membersOf(len(net), set)
		if many, want := impl.UnlikeWires(net, set), unlikeOf(table, members); many != want {
			t.Errorf("UnlikeWires is %d, not %d", many, want)
		}
		if want := isBalanced(members); impl.BalancedOk(net, set) != want {
			t.Errorf("BalancedOk is %v", !want)
		}
		if want := isFriendly(table, members); impl.FriendlyOk(net, set) != want {
			t.Errorf("FriendlyOk is %v", !want)
		}
	})
}

// Promise 56: one place alone has its wires with just one end in its set, and one place more brings its wires to all others, and takes those to the set.
func TestUnlikeWiresPlaceByPlace(t *testing.T) {
	eachKindOfNet(t, func(net []int, table pairTable) {
		for set := 0; set < power(len(net)); set++ {
			for place := range net {
				if inSet(set, place) {
					continue
				}
				within := 0
				for other := range net {
					if table[place][other] && inSet(set, other) {
						within++
					}
				}
				less := impl.UnlikeWires(net, set)
				more := impl.UnlikeWires(net, set+power(place))
				if more != less+table.nearMany(place)-2*within {
					t.Errorf("UnlikeWires is %d of the set %d, and %d with the place %d", less, set, more, place)
				}
			}
		}
	})
}

// Promise 56, told by numbers: of all sets, one after the other.
func TestUnlikeWiresByNumbers(t *testing.T) {
	cases := []struct {
		net  []int
		many []int
	}{
		{[]int{0}, []int{0, 0}},
		{[]int{0, 0}, []int{0, 0, 0, 0}},
		{[]int{2, 1}, []int{0, 1, 1, 0}},
		{[]int{2, 1, 0}, []int{0, 1, 1, 0, 0, 1, 1, 0}},
		{[]int{2, 1, 8, 4}, []int{0, 1, 1, 0, 1, 2, 2, 1, 1, 2, 2, 1, 0, 1, 1, 0}},
		{[]int{2, 5, 2}, []int{0, 1, 2, 1, 1, 2, 1, 0}},
		{[]int{2, 5, 10, 4}, []int{0, 1, 2, 1, 2, 3, 2, 1, 1, 2, 3, 2, 1, 2, 1, 0}},
		{[]int{14, 1, 1, 1}, []int{0, 3, 1, 2, 1, 2, 2, 1, 1, 2, 2, 1, 2, 1, 3, 0}},
		{[]int{6, 5, 3}, []int{0, 2, 2, 2, 2, 2, 2, 0}},
		{[]int{10, 5, 10, 5}, []int{0, 2, 2, 2, 2, 4, 2, 2, 2, 2, 4, 2, 2, 2, 2, 0}},
		{[]int{6, 5, 3, 0}, []int{0, 2, 2, 2, 2, 2, 2, 0, 0, 2, 2, 2, 2, 2, 2, 0}},
		{[]int{6, 5, 11, 4}, []int{0, 2, 2, 2, 3, 3, 3, 1, 1, 3, 3, 3, 2, 2, 2, 0}},
		{[]int{14, 13, 11, 7}, []int{0, 3, 3, 4, 3, 4, 4, 3, 3, 4, 4, 3, 4, 3, 3, 0}},
		{[]int{2, 5, 10, 20, 8}, []int{0, 1, 2, 1, 2, 3, 2, 1, 2, 3, 4, 3, 2, 3, 2, 1, 1, 2, 3, 2, 3, 4, 3, 2, 1, 2, 3, 2, 1, 2, 1, 0}},
		{[]int{30, 1, 1, 1, 1}, []int{0, 4, 1, 3, 1, 3, 2, 2, 1, 3, 2, 2, 2, 2, 3, 1, 1, 3, 2, 2, 2, 2, 3, 1, 2, 2, 3, 1, 3, 1, 4, 0}},
		{[]int{18, 5, 10, 20, 9}, []int{0, 2, 2, 2, 2, 4, 2, 2, 2, 4, 4, 4, 2, 4, 2, 2, 2, 2, 4, 2, 4, 4, 4, 2, 2, 2, 4, 2, 2, 2, 2, 0}},
		{[]int{30, 29, 27, 23, 15}, []int{0, 4, 4, 6, 4, 6, 6, 6, 4, 6, 6, 6, 6, 6, 6, 4, 4, 6, 6, 6, 6, 6, 6, 4, 6, 6, 6, 4, 6, 4, 4, 0}},
	}
	for _, c := range cases {
		for set, want := range c.many {
			if many := impl.UnlikeWires(c.net, set); many != want {
				t.Errorf("UnlikeWires(%v, %d) is %d, not %d", c.net, set, many, want)
			}
		}
		if many := impl.UnlikeWires(c.net, len(c.many)); many != -1 {
			t.Errorf("UnlikeWires(%v, %d) is %d", c.net, len(c.many), many)
		}
	}
}

// Promise 57.
func TestBothHalvesAreBalanced(t *testing.T) {
	eachNet(t, func(net []int, table pairTable) {
		lone := len(net) == 1
		if impl.BalancedOk(net, othersOf(len(net), 0)) != lone || impl.BalancedOk(net, 0) != lone {
			t.Errorf("BalancedOk is %v of all places, or of none", !lone)
		}
		for set := 0; set < power(len(net)); set++ {
			balanced := impl.BalancedOk(net, set)
			if impl.BalancedOk(net, othersOf(len(net), set)) != balanced {
				t.Errorf("BalancedOk is %v of the set %d, but not of all other places", balanced, set)
			}
		}
	})
}

// Promise 57, told by numbers: just these sets of so many places are balanced, whatever wires there are.
func TestBalancedOkByNumbers(t *testing.T) {
	cases := []struct {
		places int
		sets   []int
	}{
		{1, []int{0, 1}},
		{2, []int{1, 2}},
		{3, []int{1, 2, 3, 4, 5, 6}},
		{4, []int{3, 5, 6, 9, 10, 12}},
		{5, []int{3, 5, 6, 7, 9, 10, 11, 12, 13, 14, 17, 18, 19, 20, 21, 22, 24, 25, 26, 28}},
		{6, []int{7, 11, 13, 14, 19, 21, 22, 25, 26, 28, 35, 37, 38, 41, 42, 44, 49, 50, 52, 56}},
	}
	for _, c := range cases {
		nets := [][]int{make([]int, c.places), shapeTable(0, c.places).net(), pairsOf(c.places, power(c.places*(c.places-1)/2)-1).net()}
		for _, net := range nets {
			for set := -2; set < 2*power(mostPlaces); set++ {
				if want := hasNumber(c.sets, set); impl.BalancedOk(net, set) != want {
					t.Errorf("BalancedOk(%v, %d) is %v", net, set, !want)
				}
			}
		}
	}
}

// Promise 57: one place over the half, or under it, is balanced just of an odd number of places.
func TestSetsOnePlaceOverOrUnderTheHalf(t *testing.T) {
	for places := 1; places <= mostPlaces; places++ {
		net := make([]int, places)
		// The first places, from none to all.
		for many := 0; many <= places; many++ {
			set := power(many) - 1
			want := 2*many == places || 2*many == places-1 || 2*many == places+1
			if impl.BalancedOk(net, set) != want {
				t.Errorf("BalancedOk is %v of %d of %d places", !want, many, places)
			}
		}
	}
}

// Promise 58.
func TestFriendsCanChangeSides(t *testing.T) {
	eachNet(t, func(net []int, table pairTable) {
		wires := impl.WiresOf(net)
		for set := 0; set < power(len(net)); set++ {
			friendly := impl.FriendlyOk(net, set)
			if impl.FriendlyOk(net, othersOf(len(net), set)) != friendly {
				t.Errorf("FriendlyOk is %v of the set %d, but not of all other places", friendly, set)
			}
			if friendly && !impl.BalancedOk(net, set) {
				t.Errorf("the set %d is friendly, but not balanced", set)
			}
			if gap := gapBetween(wires, impl.UnlikeWires(net, set)); friendly && gap > 1 {
				t.Errorf("the set %d is friendly with a gap of %d", set, gap)
			}
		}
	})
}

// Promise 58: balanced sets are friendly with a gap of 0 and of 1, and are not with one of 2; and no other set is with any of these.
func TestFriendlyOkByGaps(t *testing.T) {
	var balanced, others [3]int
	eachSet(t, func(net []int, table pairTable, set int) {
		gap := gapBetween(impl.WiresOf(net), impl.UnlikeWires(net, set))
		if gap > 2 {
			return
		}
		want := impl.BalancedOk(net, set) && gap < 2
		if impl.FriendlyOk(net, set) != want {
			t.Errorf("FriendlyOk is %v with a gap of %d", !want, gap)
		}
		if impl.BalancedOk(net, set) {
			balanced[gap]++
		} else {
			others[gap]++
		}
	})
	for gap := range balanced {
		if balanced[gap] == 0 || others[gap] == 0 {
			t.Errorf("with a gap of %d there are %d balanced sets, and %d others", gap, balanced[gap], others[gap])
		}
	}
}

// Promise 58, told by numbers: just these sets are friendly.
func TestFriendlyOkByNumbers(t *testing.T) {
	cases := []struct {
		net  []int
		sets []int
	}{
		// Without wires, and with one wire, each balanced set is.
		{[]int{0}, []int{0, 1}},
		{[]int{0, 0}, []int{1, 2}},
		{[]int{0, 0, 0}, []int{1, 2, 3, 4, 5, 6}},
		{[]int{0, 0, 0, 0}, []int{3, 5, 6, 9, 10, 12}},
		{[]int{2, 1}, []int{1, 2}},
		{[]int{2, 1, 0}, []int{1, 2, 3, 4, 5, 6}},
		{[]int{0, 4, 2}, []int{1, 2, 3, 4, 5, 6}},
		{[]int{4, 0, 1}, []int{1, 2, 3, 4, 5, 6}},
		{[]int{2, 1, 0, 0}, []int{3, 5, 6, 9, 10, 12}},
		// Wires side by side.
		{[]int{2, 1, 8, 4}, nil},
		{[]int{2, 1, 8, 4, 0}, []int{7, 11, 13, 14, 17, 18, 20, 24}},
		{[]int{32, 16, 8, 4, 2, 1}, []int{13, 14, 19, 22, 26, 28, 35, 37, 41, 44, 49, 50}},
		// Trees.
		{[]int{2, 5, 2}, []int{1, 3, 4, 6}},
		{[]int{6, 1, 1}, []int{2, 3, 4, 5}},
		{[]int{2, 5, 10, 4}, []int{3, 6, 9, 12}},
		{[]int{2, 5, 10, 20, 8}, []int{6, 12, 14, 17, 19, 25}},
		{[]int{2, 5, 10, 20, 40, 16}, []int{11, 13, 14, 19, 25, 28, 35, 38, 44, 49, 50, 52}},
		{[]int{14, 1, 1, 1}, []int{3, 5, 6, 9, 10, 12}},
		{[]int{8, 8, 8, 7}, []int{3, 5, 6, 9, 10, 12}},
		{[]int{30, 1, 1, 1, 1}, []int{6, 7, 10, 11, 12, 13, 18, 19, 20, 21, 24, 25}},
		{[]int{62, 1, 1, 1, 1, 1}, []int{7, 11, 13, 14, 19, 21, 22, 25, 26, 28, 35, 37, 38, 41, 42, 44, 49, 50, 52, 56}},
		{[]int{2, 13, 2, 18, 8}, []int{3, 5, 6, 11, 14, 17, 20, 25, 26, 28}},
		// Rings, and other even nets.
		{[]int{6, 5, 3}, []int{1, 2, 3, 4, 5, 6}},
		{[]int{6, 5, 3, 0}, []int{3, 5, 6, 9, 10, 12}},
		{[]int{10, 5, 10, 5}, []int{3, 6, 9, 12}},
		{[]int{10, 5, 10, 5, 0}, []int{3, 6, 7, 9, 11, 12, 13, 14, 17, 18, 19, 20, 22, 24, 25, 28}},
		{[]int{18, 5, 10, 20, 9}, []int{3, 6, 7, 12, 14, 17, 19, 24, 25, 28}},
		{[]int{34, 5, 10, 20, 40, 17}, nil},
		{[]int{6, 5, 3, 48, 40, 24}, nil},
		{[]int{30, 29, 3, 3, 3}, []int{5, 6, 7, 9, 10, 11, 12, 13, 14, 17, 18, 19, 20, 21, 22, 24, 25, 26}},
		{[]int{46, 45, 27, 23, 12, 3}, nil},
		{[]int{58, 53, 10, 5, 3, 3}, []int{13, 14, 19, 22, 25, 28, 35, 38, 41, 44, 49, 50}},
		{[]int{60, 60, 51, 51, 15, 15}, []int{21, 22, 25, 26, 37, 38, 41, 42}},
		// Other nets, and all pairs of places.
		{[]int{6, 5, 11, 4}, []int{3, 12}},
		{[]int{14, 5, 11, 5}, []int{3, 6, 9, 12}},
		{[]int{28, 28, 3, 3, 3}, []int{5, 6, 9, 10, 13, 14, 17, 18, 21, 22, 25, 26}},
		{[]int{56, 56, 56, 7, 7, 7}, []int{11, 13, 14, 19, 21, 22, 25, 26, 28, 35, 37, 38, 41, 42, 44, 49, 50, 52}},
		{[]int{14, 13, 11, 7}, nil},
		{[]int{30, 29, 27, 23, 15}, nil},
		{[]int{62, 61, 59, 55, 47, 31}, nil},
	}
	for _, c := range cases {
		for set := -2; set < 2*power(mostPlaces); set++ {
			if want := hasNumber(c.sets, set); impl.FriendlyOk(c.net, set) != want {
				t.Errorf("FriendlyOk(%v, %d) is %v", c.net, set, !want)
			}
		}
	}
}

// Promises 56 to 58: numbers that tell no set of the places.
func TestNumbersThatAreNoSets(t *testing.T) {
	eachKindOfNet(t, func(net []int, table pairTable) {
		for _, set := range noSets(len(net)) {
			checkNoSet(t, net, set)
		}
	})
}

// Promises 16 to 18, and 56 to 58: what is no net, with numbers that would be sets of one, and with others.
func TestNoNetIsFriendly(t *testing.T) {
	for _, net := range badNets() {
		if first := impl.FriendlyFirst(net); first != -1 {
			t.Errorf("FriendlyFirst(%v) is %d", net, first)
		}
		if gaps := impl.FriendlyGaps(net); len(gaps) != 0 {
			t.Errorf("FriendlyGaps(%v) are %v", net, gaps)
		}
		if most := impl.MostUnlike(net); most != -1 {
			t.Errorf("MostUnlike(%v) is %d", net, most)
		}
		for set := 0; set < 4*power(mostPlaces); set++ {
			checkNoSet(t, net, set)
		}
		for _, set := range noSets(mostPlaces) {
			checkNoSet(t, net, set)
		}
	}
}
