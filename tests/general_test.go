package tests

import (
	"testing"

	"loop.example/labelnets/impl"
)

// callNets calls each function of chapter 1 that takes a net.
func callNets(net []int) {
	impl.NetOk(net)
	impl.WireList(net)
	impl.WiresOf(net)
	impl.MostNear(net)
	impl.PartMany(net)
	impl.TreeOk(net)
	impl.SidesOf(net)
}

// callSafely tells a panic with the argument that made it.
func callSafely(t *testing.T, net []int) {
	t.Helper()
	defer func() {
		if told := recover(); told != nil {
			t.Errorf("at %v: %v", net, told)
		}
	}()
	callNets(net)
}

func TestNoFunctionPanics(t *testing.T) {
	most := int(^uint(0) >> 1)
	odd := []int{-most - 1, -64, -1, 0, 1, 2, 3, 5, 31, 32, 63, 64, 1 << 40, most}
	for places := 0; places <= 2*mostPlaces; places++ {
		for _, first := range odd {
			for _, last := range odd {
				net := make([]int, places)
				for place := range net {
					net[place] = first
				}
				if places > 0 {
					net[places-1] = last
				}
				callSafely(t, net)
			}
		}
	}
	for _, kind := range odd {
		for _, places := range odd {
			impl.ShapeNet(kind, places)
		}
	}
}

// A mark behind the end of an argument shows a write into its spare capacity.
const mark = 77

func TestNoFunctionWritesIntoArguments(t *testing.T) {
	check := func(net []int) {
		room := append(append([]int{}, net...), mark, mark)
		callNets(room[:len(net)])
		if !sameList(room[:len(net)], net) || room[len(net)] != mark || room[len(net)+1] != mark {
			t.Errorf("%v was written into: %v", net, room)
		}
	}
	eachNet(t, func(net []int, table pairTable) { check(net) })
	for _, net := range badNets() {
		check(net)
	}
}

// spoil writes into all of a list, and into its spare capacity.
func spoil(list []int) {
	list = list[:cap(list)]
	for at := range list {
		list[at] = mark
	}
}

func TestResultsAreNewMemory(t *testing.T) {
	eachNet(t, func(net []int, table pairTable) {
		kept := append([]int{}, net...)
		want := table.wires()
		for spoilt := range want {
			wires := impl.WireList(net)
			if len(wires) != len(want) {
				t.Fatalf("%d wires", len(wires))
			}
			spoil(wires[spoilt])
			for at := range wires {
				if at != spoilt && !sameList(wires[at], want[at][:]) {
					t.Errorf("the wires %d and %d share memory", spoilt, at)
				}
			}
		}
		for at, wire := range impl.WireList(net) {
			if !sameList(wire, want[at][:]) {
				t.Errorf("the wire %d of two answers shares memory", at)
			}
		}
		if !sameList(net, kept) {
			t.Errorf("wires share memory with the net: %v", net)
		}
	})
	for kind := 0; kind <= 2; kind++ {
		for places := 3; places <= mostPlaces; places++ {
			spoil(impl.ShapeNet(kind, places))
			if !sameList(impl.ShapeNet(kind, places), shapeTable(kind, places).net()) {
				t.Errorf("shapes %d of %d places share memory", kind, places)
			}
		}
	}
}

// What was asked before must not change an answer.
func TestNoStateBetweenCalls(t *testing.T) {
	path := []int{2, 5, 10, 4}
	triangle := []int{6, 5, 3}
	for turn := 0; turn < 3; turn++ {
		callNets(triangle)
		if impl.SidesOf(path) != 5 || impl.PartMany(path) != 1 || impl.WiresOf(path) != 3 {
			t.Errorf("the turn %d answers otherwise", turn)
		}
		callNets(nil)
		if impl.SidesOf(triangle) != -1 || impl.MostNear(triangle) != 2 || impl.TreeOk(triangle) {
			t.Errorf("the turn %d answers otherwise", turn)
		}
	}
}
