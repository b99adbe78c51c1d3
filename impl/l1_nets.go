package impl

// MaxPlaces is the maximum number of places of a net.
const MaxPlaces = 6

// The kinds of ShapeNet.
const (
	pathKind = 0
	ringKind = 1
	starKind = 2
)

// leastRing is the least number of places of a ring: with two, both of its wires would be the same one.
const leastRing = 3

// NetOk reports whether a net has for each of 1..MaxPlaces places the set of its neighbours, told by a number to which each of them adds 1 for the place 0, 2 for 1, and so on, each next one twice as much, of the places of the net alone: no place is its own neighbour, and each one is a neighbour of each of its neighbours.
func NetOk(net []int) bool {
	if len(net) < 1 || len(net) > MaxPlaces {
		return false
	}
	for place := 0; place < len(net); place++ {
		near := net[place]
		if near < 0 || near > allPlaces(len(net)) || hasPlace(near, place) {
			return false
		}
	}
	return bothWays(net)
}

// WireList returns the wires of a net, of each the lesser place and the greater one, in ascending order of the first, then of the second one (NetOk); nil for others.
func WireList(net []int) [][]int {
	if !NetOk(net) {
		return nil
	}
	var wires [][]int
	for lesser := 0; lesser < len(net); lesser++ {
		for greater := lesser + 1; greater < len(net); greater++ {
			if hasPlace(net[lesser], greater) {
				wires = append(wires, []int{lesser, greater})
			}
		}
	}
	return wires
}

// WiresOf returns how many wires a net has (NetOk, WireList); -1 for others.
func WiresOf(net []int) int {
	if !NetOk(net) {
		return -1
	}
	return len(WireList(net))
}

// MostNear returns the greatest number of neighbours of a place of a net (NetOk); -1 for others.
func MostNear(net []int) int {
	if !NetOk(net) {
		return -1
	}
	most := 0
	for place := 0; place < len(net); place++ {
		many := placesIn(net[place])
		if many > most {
			most = many
		}
	}
	return most
}

// PartMany returns into how many parts a net falls: places are in one part if one comes from each to the other one by steps to neighbours (NetOk); -1 for others.
func PartMany(net []int) int {
	if !NetOk(net) {
		return -1
	}
	parts := 0
	left := allPlaces(len(net))
	// Each turn takes at least the place it starts from out of what is left.
	for left != 0 {
		even, odd := wavesFrom(net, leastOf(left))
		left &^= even | odd
		parts++
	}
	return parts
}

// TreeOk reports whether a net is one part, with one wire less than places (NetOk, PartMany, WiresOf); false for others.
func TreeOk(net []int) bool {
	return PartMany(net) == 1 && WiresOf(net) == len(net)-1
}

// SidesOf returns the set, as a number, of the places of one side of a net: no two of it, and no two of all others, are neighbours, and of each part the least place is in it (NetOk); -1 if there is none, and for others.
func SidesOf(net []int) int {
	if !NetOk(net) {
		return -1
	}
	side := 0
	left := allPlaces(len(net))
	// Each turn takes at least the place it starts from out of what is left.
	for left != 0 {
		even, odd := wavesFrom(net, leastOf(left))
		// On a ring of odd length two neighbours are met by the same wave.
		if nearSet(net, even)&even != 0 || nearSet(net, odd)&odd != 0 {
			return -1
		}
		side |= even
		left &^= even | odd
	}
	return side
}

// ShapeNet returns a net of so many places, in 1..MaxPlaces: for the kind 0 a path, each place but the last one a neighbour of the next one; for 1 a ring, of 3 places or more, of which also the last one is a neighbour of the first one; for 2 a star, the place 0 a neighbour of all others; nil for others.
func ShapeNet(kind int, places int) []int {
	if kind < pathKind || kind > starKind || places < 1 || places > MaxPlaces {
		return nil
	}
	if kind == ringKind && places < leastRing {
		return nil
	}
	net := make([]int, places)
	for place := 0; place < places; place++ {
		net[place] = shapeNear(kind, places, place)
	}
	return net
}

// shapeNear returns the neighbours of a place of a shape.
func shapeNear(kind int, places int, place int) int {
	if kind == starKind && place == 0 {
		return allPlaces(places) &^ placeSet(0)
	}
	if kind == starKind {
		return placeSet(0)
	}
	near := (placeSet(place)<<1 | placeSet(place)>>1) & allPlaces(places)
	if kind == ringKind && place == 0 {
		near |= placeSet(places - 1)
	}
	if kind == ringKind && place == places-1 {
		near |= placeSet(0)
	}
	return near
}

// bothWays reports whether each place is a neighbour of each of its neighbours.
func bothWays(net []int) bool {
	for place := 0; place < len(net); place++ {
		for other := 0; other < place; other++ {
			if hasPlace(net[place], other) != hasPlace(net[other], place) {
				return false
			}
		}
	}
	return true
}

// wavesFrom returns the places that waves of steps to neighbours meet first after an even, and after an odd number of steps from the places of a set.
func wavesFrom(net []int, start int) (int, int) {
	even := start
	odd := 0
	wave := start
	// A wave has only places that no wave had ahead of it, and there are at most MaxPlaces.
	for wave != 0 {
		across := nearSet(net, wave) &^ (even | odd)
		odd |= across
		wave = nearSet(net, across) &^ (even | odd)
		even |= wave
	}
	return even, odd
}

// nearSet returns the set of all places with a neighbour in a set.
func nearSet(net []int, set int) int {
	near := 0
	for place := 0; place < len(net); place++ {
		if hasPlace(set, place) {
			near |= net[place]
		}
	}
	return near
}

// placeSet returns the set of one place, in 0..MaxPlaces-1.
func placeSet(place int) int {
	return 1 << place
}

// allPlaces returns the set of so many places, in 0..MaxPlaces, from 0 on.
func allPlaces(places int) int {
	return 1<<places - 1
}

// hasPlace reports whether a place is in a set.
func hasPlace(set int, place int) bool {
	return set&placeSet(place) != 0
}

// leastOf returns the set of the least place alone of a set.
func leastOf(set int) int {
	return set & -set
}

// placesIn returns how many places are in a set.
func placesIn(set int) int {
	many := 0
	// Each turn takes the least place out of the set.
	for set != 0 {
		set &= set - 1
		many++
	}
	return many
}
