package tests

import (
	"strconv"
	"strings"
	"testing"

	"loop.example/labelnets/impl"
)

// The table of constants.
func TestMaxLine(t *testing.T) {
	if impl.MaxLine != mostLine {
		t.Errorf("MaxLine is %d", impl.MaxLine)
	}
}

// nearBytes are the bytes that texts have, and some that stand beside them or look like them.
const nearBytes = "01234567 89-+,./:\t\n\x00\xad\xff"

// toldNet is a net with its text, the last one of its bytes, and the answers to the lines of all words, in the order of lineWords.
type toldNet struct {
	text    string
	net     []int
	sum     int
	answers string
}

// toldNets returns nets of all kinds, with numbers that are found elsewhere.
func toldNets() []toldNet {
	return []toldNet{
		{"1", []int{0}, 1, "0 0 1 0 0 0 0 0 0 0 1"},
		{"2", []int{0, 0}, 2, "0 0 3 none 1 0 0 0 0 0 2"},
		{"2 0-1", []int{2, 1}, 5, "1 1 1 1 1 1 1 1 1 2 1"},
		{"3", []int{0, 0, 0}, 3, "0 0 7 none 1 0 0 0 0 0 3"},
		{"3 1-2", []int{0, 4, 2}, 9, "1 1 3 none 1 1 1 1 1 2 2"},
		{"3 0-1 1-2", []int{2, 5, 2}, 12, "2 2 5 2 1 2 1 2 1 3 1"},
		{"3 0-2 1-2", []int{4, 4, 3}, 14, "2 2 3 2 1 2 1 2 1 3 1"},
		{"3 0-1 0-2 1-2", []int{6, 5, 3}, 17, "3 2 none none 1 2 2 4 2 4 1"},
		{"4", []int{0, 0, 0, 0}, 4, "0 0 15 none 3 0 0 0 0 0 4"},
		{"4 0-3", []int{8, 0, 0, 1}, 13, "1 1 7 none 3 1 1 1 1 2 3"},
		{"4 0-1 2-3", []int{2, 1, 8, 4}, 19, "2 1 5 none none 2 1 2 1 2 2"},
		{"4 0-1 1-2 2-3", []int{2, 5, 10, 4}, 25, "3 2 5 2 3 3 1 3 1 3 1"},
		{"4 0-2 0-3 1-3", []int{12, 8, 1, 3}, 28, "3 2 3 2 5 3 1 3 1 3 1"},
		{"4 0-1 0-2 0-3", []int{14, 1, 1, 1}, 21, "3 3 1 3 3 3 2 4 2 4 2"},
		{"4 0-3 1-3 2-3", []int{8, 8, 8, 7}, 35, "3 3 7 3 3 3 2 4 2 4 2"},
		{"4 0-1 0-2 1-2", []int{6, 5, 3, 0}, 18, "3 2 none none 3 2 2 4 2 4 2"},
		{"4 0-1 0-3 1-2 2-3", []int{10, 5, 10, 5}, 34, "4 2 5 none 3 4 2 6 2 4 1"},
		{"4 0-1 0-2 1-2 2-3", []int{6, 5, 11, 4}, 30, "4 3 none none 3 3 2 5 2 4 1"},
		{"4 0-1 0-2 0-3 1-2 2-3", []int{14, 5, 11, 5}, 39, "5 3 none none 3 4 2 7 3 5 1"},
		{"4 0-1 0-2 0-3 1-2 1-3 2-3", []int{14, 13, 11, 7}, 49, "6 3 none none none 4 3 10 4 6 1"},
		{"5", []int{0, 0, 0, 0, 0}, 5, "0 0 31 none 3 0 0 0 0 0 5"},
		{"5 0-1 1-2 2-3 3-4", []int{2, 5, 10, 20, 8}, 50, "4 2 21 2 6 4 1 4 1 4 1"},
		{"5 0-1 0-2 0-3 0-4", []int{30, 1, 1, 1, 1}, 39, "4 4 1 4 6 4 2 6 2 5 3"},
		{"5 0-4 1-4 2-4 3-4", []int{16, 16, 16, 16, 15}, 84, "4 4 15 4 3 4 2 6 2 5 3"},
		{"5 0-1 1-2 1-3 3-4", []int{2, 13, 2, 18, 8}, 48, "4 3 13 3 3 4 2 5 2 4 2"},
		{"5 0-1 0-4 1-2 2-3 3-4", []int{18, 5, 10, 20, 9}, 67, "5 2 none none 3 4 2 8 2 4 1"},
		{"5 0-3 0-4 1-3 1-4 2-3 2-4", []int{24, 24, 24, 7, 7}, 91, "6 3 7 none 9 6 3 10 3 5 1"},
		{"5 0-1 0-2 1-2 3-4", []int{6, 5, 3, 16, 8}, 43, "4 2 none none 3 3 2 5 2 4 2"},
		{"5 0-1 0-2 1-2 2-3 2-4 3-4", []int{6, 5, 27, 20, 12}, 75, "6 4 none none none 4 2 8 2 5 1"},
		{"5 0-4 1-3", []int{16, 8, 0, 2, 1}, 32, "2 1 7 none 5 2 1 2 1 2 3"},
		{"5 0-1 0-2 0-3 0-4 1-2 1-3 1-4 2-3 2-4 3-4", []int{30, 29, 27, 23, 15}, 129, "10 4 none none none 6 4 20 6 8 1"},
		{"6", []int{0, 0, 0, 0, 0, 0}, 6, "0 0 63 none 7 0 0 0 0 0 6"},
		{"6 2-5", []int{0, 0, 32, 0, 0, 4}, 42, "1 1 31 none 7 1 1 1 1 2 5"},
		{"6 0-1 2-3 4-5", []int{2, 1, 8, 4, 32, 16}, 69, "3 1 21 none 7 3 1 3 1 2 3"},
		{"6 0-1 1-2 2-3 3-4 4-5", []int{2, 5, 10, 20, 40, 16}, 99, "5 2 21 2 11 5 1 5 1 4 1"},
		{"6 0-1 0-2 0-3 0-4 0-5", []int{62, 1, 1, 1, 1, 1}, 73, "5 5 1 5 7 5 3 9 3 6 4"},
		{"6 0-5 1-5 2-5 3-5 4-5", []int{32, 32, 32, 32, 32, 31}, 197, "5 5 31 5 7 5 3 9 3 6 4"},
		{"6 0-1 1-2 1-3 3-4 3-5", []int{2, 13, 2, 50, 8, 8}, 89, "5 3 13 4 11 5 2 7 2 4 2"},
		{"6 0-1 0-2 1-3 2-4 2-5", []int{6, 9, 49, 2, 4, 4}, 80, "5 3 57 3 7 5 2 6 2 4 2"},
		{"6 0-1 0-5 1-2 2-3 3-4 4-5", []int{34, 5, 10, 20, 40, 17}, 132, "6 2 21 none none 6 2 10 2 4 1"},
		{"6 0-1 0-2 1-2 3-4 3-5 4-5", []int{6, 5, 3, 48, 40, 24}, 132, "6 2 none none none 4 2 8 2 4 2"},
		{"6 0-3 0-4 0-5 1-3 1-4 1-5 2-3 2-4 2-5", []int{56, 56, 56, 7, 7, 7}, 195, "9 3 7 none 11 9 4 19 5 6 1"},
		{"6 0-1 0-2 0-3 1-2 1-4 2-5 3-4 3-5 4-5", []int{14, 21, 35, 49, 42, 28}, 195, "9 3 none none 11 7 3 17 4 5 1"},
		{"6 0-1 0-2 0-3 0-4 0-5 1-2 1-5 2-3 3-4 4-5", []int{62, 37, 11, 21, 41, 19}, 197, "10 5 none none 7 7 3 19 5 6 1"},
		{"6 0-1 0-2 1-2 3-4", []int{6, 5, 3, 16, 8, 0}, 44, "4 2 none none 25 3 2 5 2 4 3"},
		{"6 0-1 0-2 0-3 0-4 1-2 1-3 1-4 2-3 2-4 3-4", []int{30, 29, 27, 23, 15, 0}, 130, "10 4 none none none 6 4 20 6 8 2"},
		{"6 0-1 0-3 1-2 2-3 4-5", []int{10, 5, 10, 5, 32, 16}, 84, "5 2 21 none 7 5 2 7 2 4 2"},
		{"6 0-2 0-4 1-3 1-5 2-4 3-5", []int{20, 40, 17, 34, 5, 10}, 132, "6 2 none none none 4 2 8 2 4 2"},
		{"6 0-1 0-2 0-4 0-5 1-2 1-3 1-5 2-3 2-4 3-4 3-5 4-5", []int{54, 45, 27, 54, 45, 27}, 7, "12 4 none none 7 8 4 26 6 7 1"},
		{"6 0-2 0-3 0-4 0-5 1-2 1-3 1-4 1-5 2-3 2-4 2-5 3-4 3-5 4-5", []int{60, 60, 59, 55, 47, 31}, 67, "14 5 none none none 9 4 30 8 9 1"},
		{"6 0-1 0-2 0-3 0-4 0-5 1-2 1-3 1-4 1-5 2-3 2-4 2-5 3-4 3-5 4-5", []int{62, 61, 59, 55, 47, 31}, 70, "15 5 none none none 9 5 35 9 10 1"},
		// Nets whose bytes have a sum of 251, of a little less and a little more, and of much more.
		{"6 0-1 0-2 0-3 0-4 0-5 1-2 1-3 1-4 1-5 2-3 2-4 2-5 3-5", []int{62, 61, 59, 39, 7, 15}, 249, "13 5 none none 19 9 4 26 7 8 1"},
		{"6 0-2 0-3 0-4 0-5 1-2 1-3 1-4 1-5 2-3 2-5 3-4 3-5", []int{60, 60, 43, 55, 11, 15}, 250, "12 5 none none 25 9 4 24 6 7 1"},
		{"6 0-1 0-2 0-3 0-4 0-5 1-2 1-4 1-5 2-4 2-5 3-4 3-5", []int{62, 53, 51, 49, 15, 15}, 0, "12 5 none none 22 9 4 24 6 7 1"},
		{"6 0-2 0-4 0-5 1-2 1-4 1-5 2-3 2-4 2-5 3-4 3-5", []int{52, 52, 59, 52, 15, 15}, 0, "11 5 none none 19 9 4 22 6 7 1"},
		{"6 0-2 0-3 0-4 0-5 1-3 1-4 1-5 2-4 2-5 3-4 3-5", []int{60, 56, 49, 51, 15, 15}, 1, "11 4 none none 21 8 3 21 5 6 1"},
		{"6 0-1 0-2 0-3 0-4 0-5 1-3 1-4 1-5 2-4 2-5 3-4 3-5", []int{62, 57, 49, 51, 15, 15}, 4, "12 5 none none 21 9 4 24 6 7 1"},
		{"6 0-1 0-3 0-4 0-5 1-2 1-3 1-4 1-5 2-4 2-5 3-4 3-5", []int{58, 61, 50, 51, 15, 15}, 5, "12 5 none none 22 9 4 24 6 7 1"},
		{"6 0-2 0-3 0-4 0-5 1-3 1-4 1-5 2-4 2-5 3-4 3-5 4-5", []int{60, 56, 49, 51, 47, 31}, 49, "12 5 none none 21 8 3 22 6 7 1"},
	}
}

// checkRead tells if a text is read otherwise than the texts of all nets tell.
func checkRead(t *testing.T, text string, nets map[string][]int) {
	t.Helper()
	want, known := nets[text]
	if net, ok := impl.NetRead(text); ok != known || !sameList(net, want) {
		t.Errorf("NetRead(%q) is %v, %v, not %v", text, net, ok, want)
	}
}

// checkFrom tells if bytes are read otherwise than the bytes of all nets tell.
func checkFrom(t *testing.T, bytes []byte, nets map[string][]int) {
	t.Helper()
	want, known := nets[string(bytes)]
	if net, ok := impl.NetFrom(bytes); ok != known || !sameList(net, want) {
		t.Errorf("NetFrom(%v) is %v, %v, not %v", bytes, net, ok, want)
	}
}

// checkNotRead tells if a text is read that is no net's.
func checkNotRead(t *testing.T, text string) {
	t.Helper()
	if net, ok := impl.NetRead(text); ok || len(net) != 0 {
		t.Errorf("NetRead(%.200q) is %v, %v", text, net, ok)
	}
}

// checkNotFrom tells if bytes are read that are no net's.
func checkNotFrom(t *testing.T, bytes []byte) {
	t.Helper()
	if net, ok := impl.NetFrom(bytes); ok || len(net) != 0 {
		t.Errorf("NetFrom(%v) is %v, %v", bytes, net, ok)
	}
}

// checkLine tells if a line has another answer than the one that is wanted.
func checkLine(t *testing.T, line string, want string) {
	t.Helper()
	if answer := impl.LineTold(line); answer != want {
		t.Errorf("LineTold(%.200q) is %q, not %q", line, answer, want)
	}
}

// eachNotNet calls check with what is no net, for each reason that there is: lists of all kinds, nets with one place changed in one set alone, and nets of more places than there may be.
func eachNotNet(t *testing.T, check func(list []int)) {
	t.Helper()
	for _, list := range badNets() {
		check(list)
	}
	for places := mostPlaces + 1; places <= 70; places++ {
		path := make([]int, places)
		for place := 1; place < places; place++ {
			path[place-1] |= 1 << place
			path[place] |= 1 << (place - 1)
		}
		check(path)
		check(make([]int, places))
	}
	eachKindOfNet(t, func(net []int, table pairTable) {
		for place := range net {
			changed := append([]int{}, net...)
			for other := 0; other <= len(net); other++ {
				changed[place] = net[place] + power(other)
				if inSet(net[place], other) {
					changed[place] = net[place] - power(other)
				}
				check(changed)
			}
			for _, wrong := range []int{-1, -net[place] - 1, 256 + net[place], -256 + net[place], 1<<32 + net[place]} {
				changed[place] = wrong
				check(changed)
			}
		}
	})
}

// Promises 33 and 68: all nets, of which each has another text.
func TestTextsOfNetsCanBeReadBack(t *testing.T) {
	texts := map[string]bool{}
	eachNet(t, func(net []int, table pairTable) {
		text := impl.NetText(net)
		if want := table.text(); text != want {
			t.Errorf("NetText is %q, not %q", text, want)
		}
		if text == "" || texts[text] {
			t.Errorf("NetText is %q, as of another one", text)
		}
		texts[text] = true
		if read, ok := impl.NetRead(text); !ok || !sameList(read, net) {
			t.Errorf("NetRead(%q) is %v, %v", text, read, ok)
		}
	})
	if many := 1 + 2 + 8 + 64 + 1024 + 32768; len(texts) != many {
		t.Errorf("there are %d texts, not %d", len(texts), many)
	}
}

// Promises 33, 34 and 69, told by numbers: nets, their texts, and the last ones of their bytes.
func TestTextsAndBytesByNumbers(t *testing.T) {
	for _, c := range toldNets() {
		if text := impl.NetText(c.net); text != c.text {
			t.Errorf("NetText(%v) is %q, not %q", c.net, text, c.text)
		}
		if net, ok := impl.NetRead(c.text); !ok || !sameList(net, c.net) {
			t.Errorf("NetRead(%q) is %v, %v, not %v", c.text, net, ok, c.net)
		}
		want := []byte{byte(len(c.net))}
		for _, set := range c.net {
			want = append(want, byte(set))
		}
		want = append(want, byte(c.sum))
		if bytes := impl.NetBytes(c.net); string(bytes) != string(want) {
			t.Errorf("NetBytes(%v) is %v, not %v", c.net, bytes, want)
		}
		if net, ok := impl.NetFrom(want); !ok || !sameList(net, c.net) {
			t.Errorf("NetFrom(%v) is %v, %v, not %v", want, net, ok, c.net)
		}
	}
}

// Promise 33: what is no net has the empty text, and no bytes.
func TestNoNetHasATextOrBytes(t *testing.T) {
	eachNotNet(t, func(list []int) {
		if text := impl.NetText(list); text != "" {
			t.Errorf("NetText(%v) is %q", list, text)
		}
		if bytes := impl.NetBytes(list); len(bytes) != 0 {
			t.Errorf("NetBytes(%v) is %v", list, bytes)
		}
	})
}

// Promise 33: shapes, lone places and all pairs, up to the most places.
func TestTextsOfShapes(t *testing.T) {
	paths := []string{"1", "2 0-1", "3 0-1 1-2", "4 0-1 1-2 2-3", "5 0-1 1-2 2-3 3-4", "6 0-1 1-2 2-3 3-4 4-5"}
	rings := []string{"", "", "3 0-1 0-2 1-2", "4 0-1 0-3 1-2 2-3", "5 0-1 0-4 1-2 2-3 3-4", "6 0-1 0-5 1-2 2-3 3-4 4-5"}
	stars := []string{"1", "2 0-1", "3 0-1 0-2", "4 0-1 0-2 0-3", "5 0-1 0-2 0-3 0-4", "6 0-1 0-2 0-3 0-4 0-5"}
	for kind, texts := range [][]string{paths, rings, stars} {
		for at, want := range texts {
			net := impl.ShapeNet(kind, at+1)
			if text := impl.NetText(net); text != want {
				t.Errorf("NetText(%v) is %q, not %q", net, text, want)
			}
			if read, ok := impl.NetRead(want); ok != (want != "") || !sameList(read, net) {
				t.Errorf("NetRead(%q) is %v, %v, not %v", want, read, ok, net)
			}
		}
	}
	for places := 1; places <= mostPlaces; places++ {
		lone := make([]int, places)
		if text := impl.NetText(lone); text != strconv.Itoa(places) {
			t.Errorf("NetText(%v) is %q", lone, text)
		}
		all := impl.NetText(impl.OtherNet(lone))
		if want := 1 + 2*places*(places-1); len(all) != want {
			t.Errorf("the text of all pairs of %d places is %q, of %d bytes", places, all, len(all))
		}
	}
}

// Promise 68: of all texts of a few bytes just those are read that are nets'.
func TestShortTexts(t *testing.T) {
	nets := netsByText(t)
	read := 0
	check := func(text string) {
		checkRead(t, text, nets)
		if _, ok := impl.NetRead(text); ok {
			read++
		}
	}
	eachText(2, allBytes(), check)
	// The nets without wires.
	if read != mostPlaces {
		t.Errorf("%d texts of at most two bytes are read", read)
	}
	read = 0
	eachText(5, "0123456789 -+", check)
	// These, and those with one wire: of each number of places as many as it has pairs.
	if read != mostPlaces+1+3+6+10+15 {
		t.Errorf("%d texts of at most five bytes are read", read)
	}
	eachText(8, "012 -", func(text string) { checkRead(t, "3"+text, nets) })
}

// Promise 68: a text that differs in a byte from a net's is read just if it is another net's.
func TestTextsWithOneByteChanged(t *testing.T) {
	nets := netsByText(t)
	others := 0
	check := func(table pairTable, bytes string) {
		text := table.text()
		eachEdit(text, bytes, func(edited string) {
			checkRead(t, edited, nets)
			if _, ok := impl.NetRead(edited); ok && edited != text {
				others++
			}
		})
	}
	eachNetUpTo(t, 4, func(net []int, table pairTable) { check(table, allBytes()) })
	eachKindOfNet(t, func(net []int, table pairTable) { check(table, nearBytes) })
	if others == 0 {
		t.Error("no other net is told by a changed byte")
	}
}

// piecesOf returns the number of places and the wires that a text tells.
func piecesOf(text string) (string, []string) {
	pieces := strings.Split(text, " ")
	return pieces[0], pieces[1:]
}

// Promise 68: in all other orders of wires, the same net is not read.
func TestWiresInAnotherOrder(t *testing.T) {
	swapped := 0
	eachNetUpTo(t, 4, func(net []int, table pairTable) {
		places, wires := piecesOf(table.text())
		eachUnlikeRow(len(wires), len(wires)-1, func(order []int) {
			text := places
			for _, at := range order {
				text += " " + wires[at]
			}
			read, ok := impl.NetRead(text)
			if own := sameList(order, ownOrder(len(wires))); ok != own || own && !sameList(read, net) || !own && len(read) != 0 {
				t.Errorf("NetRead(%q) is %v, %v", text, read, ok)
			}
		})
	})
	eachKindOfNet(t, func(net []int, table pairTable) {
		places, wires := piecesOf(table.text())
		for at := range wires {
			for ahead := range wires[:at] {
				wires[at], wires[ahead] = wires[ahead], wires[at]
				checkNotRead(t, places+" "+strings.Join(wires, " "))
				wires[at], wires[ahead] = wires[ahead], wires[at]
				swapped++
			}
		}
	})
	if swapped == 0 {
		t.Error("no two wires are swapped")
	}
}

// Promise 68: wires of which the greater place comes first, of all, or of some.
func TestWiresTurned(t *testing.T) {
	eachNetUpTo(t, mostPlaces-1, func(net []int, table pairTable) {
		places, wires := piecesOf(table.text())
		for set := 1; set < power(len(wires)); set++ {
			text := places
			for at, turned := range membersOf(len(wires), set) {
				if turned {
					text += " " + wires[at][2:] + "-" + wires[at][:1]
				} else {
					text += " " + wires[at]
				}
			}
			checkNotRead(t, text)
		}
	})
}

// Promise 68: a wire that is told twice, side by side or elsewhere, the second time turned, too.
func TestWiresToldTwice(t *testing.T) {
	eachKindOfNet(t, func(net []int, table pairTable) {
		places, wires := piecesOf(table.text())
		for _, wire := range wires {
			for at := 0; at <= len(wires); at++ {
				first := strings.Join(append([]string{places}, wires[:at]...), " ")
				last := strings.Join(append([]string{""}, wires[at:]...), " ")
				checkNotRead(t, first+" "+wire+last)
				checkNotRead(t, first+" "+wire[2:]+"-"+wire[:1]+last)
			}
		}
	})
}

// Promise 68: one wire more, of any two numbers of one digit, at any place of a text: it is read just if it is one of another net, at its place.
func TestWiresMore(t *testing.T) {
	nets := netsByText(t)
	more := 0
	check := func(table pairTable) {
		places, wires := piecesOf(table.text())
		for at := 0; at <= len(wires); at++ {
			first := strings.Join(append([]string{places}, wires[:at]...), " ")
			last := strings.Join(append([]string{""}, wires[at:]...), " ")
			for code := 0; code < 100; code++ {
				text := first + " " + strconv.Itoa(code/10) + "-" + strconv.Itoa(code%10) + last
				checkRead(t, text, nets)
				if _, ok := impl.NetRead(text); ok {
					more++
				}
			}
		}
	}
	eachNetUpTo(t, 4, func(net []int, table pairTable) { check(table) })
	// Each net of two to four places is come to by each of its wires.
	if want := 1 + 3*4 + 6*32; more != want {
		t.Errorf("%d nets with a wire more are read, not %d", more, want)
	}
	for _, table := range kindsOf(mostPlaces) {
		check(table)
	}
}

// Promise 68: wires of a place with itself, and to places that the net has not.
func TestWiresOfNoTwoPlaces(t *testing.T) {
	for places := 0; places <= 9; places++ {
		for one := 0; one <= 12; one++ {
			for other := 0; other <= 12; other++ {
				text := strconv.Itoa(places) + " " + strconv.Itoa(one) + "-" + strconv.Itoa(other)
				_, ok := impl.NetRead(text)
				if want := places >= 1 && places <= mostPlaces && one < other && other < places; ok != want {
					t.Errorf("NetRead(%q) is %v", text, ok)
				}
			}
		}
	}
}

// Promise 68: numbers of places of all kinds ahead of the wires of a net.
func TestNumbersOfPlacesInTexts(t *testing.T) {
	nets := netsByText(t)
	numbers := []string{"", "-", "+", "00", "01", "04", "06", "007", "0000004", "+4", "-4", "-1", "--4", "- 4", "4.", "4.0", ".4", "4e0", "0x4", "0b1", "4_", "four", "\xd9\xa4", "\xef\xbc\x94", "\x04", "4\x00", "\x004", "257", "260", "262", "65540", "4294967300", "18446744073709551620", "18446744073709551617", strings.Repeat("4", 30), strings.Repeat("1", 61), strings.Repeat("0", 60) + "4", strings.Repeat("4", 1000)}
	for number := 0; number <= 300; number++ {
		numbers = append(numbers, strconv.Itoa(number), strconv.Itoa(-number))
	}
	eachNetUpTo(t, 4, func(net []int, table pairTable) {
		text := table.text()
		for _, number := range numbers {
			checkRead(t, number+text[1:], nets)
			checkRead(t, number+text, nets)
			checkRead(t, text+number, nets)
			checkRead(t, text+" "+number, nets)
		}
	})
}

// badTexts returns texts that are no net's, for each reason that there is.
func badTexts() []string {
	return []string{
		// Nothing, and no number of places.
		"", " ", "  ", "-", "0", "7", "8", "9", "10", "16", "66", "99", "x", "a", " 0-1", "0-1", "0-1 1-2", "- 0-1",
		// Leading zeros and signs.
		"01", "04", "004", "04 0-1", "4 00-1", "4 0-01", "4 00-01", "4 000-1", "+4", "-4", "+4 0-1", "4 +0-1", "4 0-+1", "4 -0-1", "4 0--1", "4 -0--1",
		// No places, and too many.
		"0 0-1", "0 0-0", "7 0-1", "7 0-1 5-6", "8 0-7", "9 0-8", "10 0-1", "12 0-11", "444444444444444444444", "4444444444444444444444 0-1",
		// Wires in another order, twice, and turned.
		"4 1-2 0-1", "4 0-2 0-1", "4 2-3 0-1 1-2", "4 0-1 0-1", "4 0-1 0-1 1-2", "4 0-1 1-2 0-1", "4 0-1 1-0", "4 1-0", "4 1-0 1-2", "4 0-1 2-1", "2 1-0", "6 5-0",
		// No two places.
		"1 0-0", "1 0-1", "2 0-0", "2 1-1", "2 0-2", "2 0-1 1-1", "3 0-3", "4 0-4", "4 4-5", "4 0-9", "4 0-10", "4 0-44", "4 3-4", "6 0-6", "6 5-6", "6 0-5 6-7",
		// Blanks too many, and too few.
		"4 ", " 4", "4  ", "  4", "4 0-1 ", " 4 0-1", "4  0-1", "4 0-1  1-2", "4 0-1  ", "40-1", "4 0-11-2", "4 0-12-3", "4 0 -1", "4 0- 1", "4 0 - 1", "4 0-1 1- 2", "4 0-1 1 -2",
		// Hyphens too many, and too few.
		"4 01", "4 0", "4 1", "4 0 1", "4 0-", "4 -1", "4 -", "4 --", "4 0-1-", "4 -0-1", "4 0-1-2", "4 0--1", "4 0-1 12", "4 0-1 1", "4 0-1 -", "4 0-1 1-", "4 0-1 -2", "4- 0-1", "4-0-1", "-4 0-1", "4 -0-1", "4 0-1 -1-2", "4 0-1- 1-2",
		// Bytes that are no digits, or not these.
		"4 a-b", "4 0-b", "4 a-1", "x 0-1", "4 0-x 1-2", "4\t0-1", "4\n0-1", "4\x000-1", "4 0\xad1", "4 0\xe2\x80\x901", "4 0_1", "4 0=1", "4 0,1", "4,0-1", "4 0-1,1-2", "4\xa00-1", "4 0-\xb1", "\xb4 0-1", "4 0-:", "4 0-/", "4 /-0", ": 0-1", "/",
		// What is left behind the last wire.
		"4 0-1x", "4 0-1\n", "4 0-1\x00", "4 0-1\t", "4 0-1 x", "4 0-1 \n", "4\n", "4\x00", "4x", "4.", "1\r\n", "4 0-1.", "4 0-1;", "4 0-1 1-2 ;", "4 0-1 4", "4 0-1 4 0-1", "4 0-11", "4 0-10", "4 0-1 0-22",
	}
}

// Promises 33 and 68: texts that are no net's.
func TestTextsOfNoNet(t *testing.T) {
	for _, text := range badTexts() {
		checkNotRead(t, text)
	}
}

// Promise 68: a text of a net with something ahead of it, behind it, or between its pieces.
func TestTextsWithBlanksAround(t *testing.T) {
	eachKindOfNet(t, func(net []int, table pairTable) {
		text := table.text()
		for _, more := range []string{" ", "  ", "-", "\n", "\r\n", "\t", "\x00", "x", "\xff", "\xef\xbb\xbf", " x", " 4", " -", "wires "} {
			checkNotRead(t, text+more)
			checkNotRead(t, strings.Replace(text, " ", more+" ", 1)+more)
		}
		for _, more := range []string{" ", "  ", "-", "+", "0", "00", "\n", "\t", "\x00", "x", "\xff", "\xef\xbb\xbf", "x ", "4 ", "- ", "wires "} {
			checkNotRead(t, more+text)
		}
		if strings.Contains(text, " ") {
			checkNotRead(t, strings.ReplaceAll(text, " ", "  "))
			checkNotRead(t, strings.ReplaceAll(text, " ", "\t"))
			checkNotRead(t, strings.ReplaceAll(text, " ", "\xc2\xa0"))
			checkNotRead(t, strings.ReplaceAll(text, " ", ""))
			checkNotRead(t, strings.ReplaceAll(text, "-", ""))
			checkNotRead(t, strings.ReplaceAll(text, "-", "--"))
			checkNotRead(t, strings.ReplaceAll(text, "-", " - "))
			checkNotRead(t, strings.ReplaceAll(text, "-", "\xe2\x80\x93"))
		}
	})
}

// Promise 68: texts longer than each net's, that begin as one.
func TestLongTexts(t *testing.T) {
	all := impl.NetText([]int{62, 61, 59, 55, 47, 31})
	if len(all) != 61 {
		t.Errorf("the longest text has %d bytes", len(all))
	}
	for _, more := range []string{" 3-5", " 5-5", " 5-4", " 0-1", " 5-6", " ", "0"} {
		checkNotRead(t, all+more)
		checkNotRead(t, all[:len(all)-4]+more)
	}
	checkNotRead(t, all+" 4-5")
	for _, many := range []int{10, 15, 16, 17, 100, 1000, 100000} {
		for _, piece := range []string{" ", "-", "6", "0", " 0-1", " 0-1 1-2", "0-1 ", "6 ", " 6 0-1", "\x00", "\xff"} {
			checkNotRead(t, strings.Repeat(piece, many))
			checkNotRead(t, "6"+strings.Repeat(piece, many))
			checkNotRead(t, "6 0-1"+strings.Repeat(piece, many))
			checkNotRead(t, all+strings.Repeat(piece, many))
		}
	}
}

// Promises 34 and 69: all nets, of which each has other bytes.
func TestBytesOfNetsCanBeReadBack(t *testing.T) {
	told := map[string]bool{}
	under, just, over := 0, 0, 0
	eachNet(t, func(net []int, table pairTable) {
		bytes := impl.NetBytes(net)
		if want := table.bytes(); string(bytes) != string(want) {
			t.Errorf("NetBytes is %v, not %v", bytes, want)
		}
		if len(bytes) != len(net)+2 || told[string(bytes)] {
			t.Errorf("NetBytes is %v, as of another one", bytes)
		}
		told[string(bytes)] = true
		read, ok := impl.NetFrom(bytes)
		if !ok || !sameList(read, net) {
			t.Errorf("NetFrom(%v) is %v, %v", bytes, read, ok)
		}
		if again := impl.NetBytes(read); string(again) != string(bytes) {
			t.Errorf("NetFrom(%v) has the bytes %v", bytes, again)
		}
		sum := len(net)
		for _, set := range net {
			sum += set
		}
		switch {
		case sum < 251:
			under++
		case sum == 251:
			just++
		default:
			over++
		}
	})
	// Just nets of six places have so great a sum.
	if under != 1+2+8+64+1024+31585 || just != 55 || over != 1128 {
		t.Errorf("so many sums are below 251, 251 and above: %d, %d, %d", under, just, over)
	}
}

// Promise 34: no byte of a net's can be another one, the sum included.
func TestNoByteAloneCanBeAnotherOne(t *testing.T) {
	check := func(net []int, at int) {
		bytes := impl.NetBytes(net)
		own := bytes[at]
		for other := 0; other < 256; other++ {
			bytes[at] = byte(other)
			if byte(other) != own {
				checkNotFrom(t, bytes)
			}
		}
	}
	eachKindOfNet(t, func(net []int, table pairTable) {
		for at := 0; at < len(net)+2; at++ {
			check(net, at)
		}
	})
	eachNet(t, func(net []int, table pairTable) {
		check(net, 0)
		check(net, len(net)+1)
	})
}

// Promise 34: a byte less, whichever it is, or more, whichever and wherever it is.
func TestAByteLessOrMore(t *testing.T) {
	eachKindOfNet(t, func(net []int, table pairTable) {
		bytes := table.bytes()
		for at := 0; at <= len(bytes); at++ {
			if at < len(bytes) {
				checkNotFrom(t, append(append([]byte{}, bytes[:at]...), bytes[at+1:]...))
			}
			for other := 0; other < 256; other++ {
				more := append(append([]byte{}, bytes[:at]...), byte(other))
				checkNotFrom(t, append(more, bytes[at:]...))
			}
		}
		// All but the first ones, and all but the last ones.
		for many := 1; many <= len(bytes); many++ {
			checkNotFrom(t, bytes[many:])
			checkNotFrom(t, bytes[:len(bytes)-many])
		}
		checkNotFrom(t, append(append([]byte{}, bytes...), bytes...))
	})
}

// Promises 34 and 69: of all lists of a few bytes just those are read that are nets'.
func TestShortBytes(t *testing.T) {
	nets := netsByBytes(t)
	read := 0
	check := func(bytes []byte) {
		checkFrom(t, bytes, nets)
		if _, ok := impl.NetFrom(bytes); ok {
			read++
		}
	}
	eachText(2, allBytes(), func(text string) { check([]byte(text)) })
	eachText(2, allBytes(), func(text string) {
		for first := -1; first < 9; first++ {
			check(append([]byte{byte(first)}, text...))
		}
	})
	// The net of one place.
	if read != 1 {
		t.Errorf("%d lists of at most three bytes are read", read)
	}
	read = 0
	eachText(6, "\x00\x01\x02\x03\x04\x05\x06\x0b\x0f", func(text string) { check([]byte(text)) })
	if read == 0 {
		t.Error("no lists of at most six bytes are read")
	}
}

// Promise 34: sets of neighbours of all kinds, with a right sum: just nets are read.
func TestSetsWithARightSum(t *testing.T) {
	nets := netsByBytes(t)
	for places := 1; places <= 4; places++ {
		read := 0
		eachRow(places, 0, power(places), func(row []int) {
			bytes := []byte{byte(places)}
			for _, set := range row {
				bytes = append(bytes, byte(set))
			}
			bytes = summed(bytes)
			checkFrom(t, bytes, nets)
			if _, ok := impl.NetFrom(bytes); ok {
				read++
			}
		})
		if want := power(places * (places - 1) / 2); read != want {
			t.Errorf("%d nets of %d places are read, not %d", read, places, want)
		}
	}
	eachNotNet(t, func(list []int) {
		bytes := []byte{byte(len(list))}
		for _, set := range list {
			// A number that is no byte is taken by its last digits, of which another one may be a net's.
			bytes = append(bytes, byte(set))
		}
		checkFrom(t, summed(bytes), nets)
	})
}

// Promise 34: numbers of places that do not fit the number of bytes, with a right sum.
func TestNumbersOfPlacesInBytes(t *testing.T) {
	eachKindOfNet(t, func(net []int, table pairTable) {
		own := table.bytes()
		for places := 0; places < 256; places++ {
			if places == len(net) {
				continue
			}
			bytes := append([]byte{byte(places)}, own[1:len(own)-1]...)
			checkNotFrom(t, summed(bytes))
			// The sum of the net alone.
			checkNotFrom(t, append(append([]byte{}, bytes...), own[len(own)-1]))
		}
	})
	for places := 0; places <= 300; places++ {
		for _, first := range []int{0, 1, mostPlaces, mostPlaces + 1, places, places - 1, places + 1} {
			bytes := summed(append([]byte{byte(first)}, make([]byte, places)...))
			_, ok := impl.NetFrom(bytes)
			if want := places == first && places >= 1 && places <= mostPlaces; ok != want {
				t.Errorf("NetFrom(%v) is %v", bytes, ok)
			}
		}
	}
}

// Promise 34: the last byte is the sum by 251, not by 256 or another number, nor is it 251 or more.
func TestSumsOfOtherKinds(t *testing.T) {
	greater := 0
	eachNet(t, func(net []int, table pairTable) {
		bytes := table.bytes()
		last := len(bytes) - 1
		sum := len(net)
		for _, set := range net {
			sum += set
		}
		for _, wrong := range []int{sum, sum % 250, sum % 252, sum % 253, sum % 255, sum % 256, sum - len(net), 251 - sum%251, 256 - sum%251, sum%251 + 251, sum%251 + 1, sum%251 + 255} {
			if byte(wrong) == byte(sum%251) {
				continue
			}
			bytes[last] = byte(wrong)
			checkNotFrom(t, bytes)
		}
		if sum%251 < 5 {
			greater++
			bytes[last] = byte(sum%251 + 251)
			checkNotFrom(t, bytes)
		}
	})
	if greater == 0 {
		t.Error("no sum is so little that the byte 251 more stands for it, too")
	}
}

// Promise 34: no bytes at all, and many.
func TestBytesOfOtherLengths(t *testing.T) {
	checkNotFrom(t, nil)
	checkNotFrom(t, []byte{})
	for one := 0; one < 256; one++ {
		checkNotFrom(t, []byte{byte(one)})
	}
	for _, many := range []int{mostPlaces + 3, 62, 63, 64, 65, 255, 256, 257, 258, 260, 1000, 100000} {
		for _, one := range []int{0, 1, mostPlaces, 250, 251, 255} {
			bytes := make([]byte, many)
			for at := range bytes {
				bytes[at] = byte(one)
			}
			checkNotFrom(t, bytes)
			checkNotFrom(t, append([]byte{byte(many)}, bytes...))
			checkNotFrom(t, summed(append([]byte{byte(many)}, bytes...)))
		}
	}
}

// Promise 70, told by numbers: all words, at nets of all kinds.
func TestLinesByNumbers(t *testing.T) {
	none, noughts := 0, 0
	for _, c := range toldNets() {
		answers := strings.Split(c.answers, " ")
		if len(answers) != len(lineWords()) {
			t.Fatalf("%q has %d answers", c.text, len(answers))
		}
		for at, word := range lineWords() {
			checkLine(t, word+" "+c.text, answers[at])
			if answers[at] == "none" {
				none++
			}
			if answers[at] == "0" {
				noughts++
			}
		}
	}
	if none == 0 || noughts == 0 {
		t.Errorf("%d answers are none, and %d are 0", none, noughts)
	}
}

// Promise 70: all words, as they are found another way.
func TestLinesAreAnsweredAsFound(t *testing.T) {
	told := map[string]int{}
	eachKindOfNet(t, func(net []int, table pairTable) {
		for _, word := range lineWords() {
			want := toldAs(table.asked(word))
			checkLine(t, word+" "+table.text(), want)
			told[want]++
		}
	})
	for _, answer := range []string{"none", "0", "1", "9", "10", "35", "63"} {
		if told[answer] == 0 {
			t.Errorf("no answer is %q", answer)
		}
	}
}

// Promise 70: lines tell what functions return, at all nets.
func TestLinesTellWhatFunctionsReturn(t *testing.T) {
	many := 0
	eachNet(t, func(net []int, table pairTable) {
		text := " " + impl.NetText(net)
		checkLine(t, "wires"+text, toldAs(impl.WiresOf(net)))
		checkLine(t, "near"+text, toldAs(impl.MostNear(net)))
		checkLine(t, "sides"+text, toldAs(impl.SidesOf(net)))
		checkLine(t, "legs"+text, toldAs(impl.LegsOf(net)))
		checkLine(t, "friendly"+text, toldAs(impl.FriendlyFirst(net)))
		checkLine(t, "unlike"+text, toldAs(impl.MostUnlike(net)))
		checkLine(t, "span"+text, toldAs(impl.FewestSpan(net)))
		checkLine(t, "paths"+text, toldAs(impl.PathCover(net)))
		// Orders take long: so of six places just every thirtieth net is asked for them.
		many++
		if len(net) == mostPlaces && many%30 > 0 {
			return
		}
		narrow := impl.NarrowRow(net)
		for at, word := range []string{"width", "length", "cut"} {
			checkLine(t, word+text, toldAs(narrow[at]))
		}
	})
}

// Promise 70: "paths" is answered as the text of as many lone places begins.
func TestPathsAreToldAsLonePlaces(t *testing.T) {
	eachNet(t, func(net []int, table pairTable) {
		lone := impl.NetText(make([]int, impl.PathCover(net)))
		if lone == "" {
			t.Errorf("PathCover is %d", impl.PathCover(net))
		}
		checkLine(t, "paths "+impl.NetText(net), lone)
	})
}

// The examples of the document, and those of promise 70.
func TestExamplesOfLines(t *testing.T) {
	cases := [][2]string{
		{"wires 4 0-1 1-2 2-3", "3"},
		{"sides 4 0-1 1-2 2-3", "5"},
		{"legs 4 0-1 1-2 2-3", "2"},
		{"width 4 0-1 0-2 0-3", "2"},
		{"span 4 0-1 1-2 2-3", "3"},
		{"span 4 0-1 0-2 0-3", "4"},
		{"sides 3 0-1 0-2 1-2", "none"},
		{"paths 4 0-1 0-2 0-3", "2"},
		{"span 4 1-0", "what"},
		{"span", "what"},
		{"", "what"},
	}
	var lines, answers []string
	for _, c := range cases {
		checkLine(t, c[0], c[1])
		lines = append(lines, c[0])
		answers = append(answers, c[1])
	}
	checkLines(t, lines, answers, 3)
}

// badLines returns lines that are answered by "what", for each reason that there is.
func badLines() []string {
	path := "4 0-1 1-2 2-3"
	lines := []string{
		"", " ", "  ", "\n", "\x00", "\xff", "what", "none", "what ", "none ", "4", path,
		" " + path, "  " + path, " wires", "-", "- " + path, "0 " + path,
		// Other words, and the functions' own names.
		"what " + path, "none " + path, "dance 1", "net " + path, "place 1", "places 1", "parts " + path, "part " + path, "tree " + path, "row 1", "first " + path, "graceful " + path, "narrow " + path, "gaps " + path, "even " + path, "WiresOf " + path, "MostNear " + path, "FewestSpan " + path, "PathCover " + path, "most " + path, "backbone " + path, "sidesof " + path, "widths " + path, "channels " + path, "text " + path, "bytes " + path,
	}
	for _, word := range lineWords() {
		lines = append(lines, word, word+" ", word+"  ", " "+word, word+path, word+"  "+path, " "+word+" "+path, word+" "+path+" ", word+" "+path+"\n", word+"\t"+path, word+"\n"+path, word+"\x00"+path, word+"\xa0"+path, word+" \t"+path, word+"- "+path, word+": "+path, word+", "+path, word+"\x00 "+path, "\x00"+word+" "+path, "\""+word+"\" "+path)
		// Two words, or none at its place.
		lines = append(lines, word+" "+word+" "+path, word+" wires "+path, path+" "+word, word+" "+path+" "+word, word+" "+path+" "+path, word+word+" "+path)
		// Capitals, parts and longer ones.
		lines = append(lines, strings.ToUpper(word)+" "+path, strings.ToUpper(word[:1])+word[1:]+" "+path, word[:len(word)-1]+strings.ToUpper(word[len(word)-1:])+" "+path)
		for at := 1; at < len(word); at++ {
			lines = append(lines, word[:at]+" "+path, word[at:]+" "+path, word[:at]+" "+word[at:]+" "+path)
		}
		lines = append(lines, word+"s "+path, word+"x "+path, "x"+word+" "+path, "the"+word+" "+path, word+word[len(word)-1:]+" "+path)
	}
	return lines
}

// Promise 70: lines that ask for nothing.
func TestLinesThatAreNotUnderstood(t *testing.T) {
	for _, line := range badLines() {
		checkLine(t, line, "what")
	}
	for _, word := range lineWords() {
		for _, text := range badTexts() {
			checkLine(t, word+" "+text, "what")
		}
	}
}

// Promise 70: a line that differs in a byte from a right one has the answer that it should have, be it "what" or not.
func TestLinesWithOneByteChanged(t *testing.T) {
	nets := netsByText(t)
	others := 0
	for _, word := range lineWords() {
		for _, text := range []string{"1", "3 0-2", "4 0-1 1-2 2-3"} {
			eachEdit(word+" "+text, allBytes(), func(edited string) {
				want := answerTo(edited, nets)
				checkLine(t, edited, want)
				if want != "what" && edited != word+" "+text {
					others++
				}
			})
		}
	}
	if others == 0 {
		t.Error("no other line is understood")
	}
}

// Promise 70: lines of at most a few bytes are understood just if they ask the net of one place, or of a few lone ones.
func TestShortLines(t *testing.T) {
	nets := netsByText(t)
	eachText(2, allBytes(), func(line string) { checkLine(t, line, "what") })
	for _, word := range lineWords() {
		eachText(1, allBytes(), func(line string) { checkLine(t, word+line, "what") })
		eachText(1, allBytes(), func(text string) { checkLine(t, word+" "+text, answerTo(word+" "+text, nets)) })
		eachText(1, allBytes(), func(text string) { checkLine(t, word+text+"4", answerTo(word+text+"4", nets)) })
	}
}

// Promise 70: lines of as many bytes as there may be, and of more, which are "what" whatever they begin with.
func TestLongLines(t *testing.T) {
	all := "6 0-1 0-2 0-3 0-4 0-5 1-2 1-3 1-4 1-5 2-3 2-4 2-5 3-4 3-5 4-5"
	for _, word := range lineWords() {
		// The longest line that is understood.
		if answer := impl.LineTold(word + " " + all); answer == "what" {
			t.Errorf("LineTold(%q) is %q", word+" "+all, answer)
		}
		for _, many := range []int{71, mostLine - 1, mostLine, mostLine + 1, mostLine + 2, 255, 256, 257, 356, 1000, 100000} {
			for _, piece := range []string{" ", "0", " 0-1", " 4-5", "-", "\x00", "\xff", "wires ", "1"} {
				for _, begin := range []string{word + " " + all, word + " 4 0-1", word + " ", word, ""} {
					line := begin + strings.Repeat(piece, many/len(piece)+1)
					line = line[:many]
					checkLine(t, line, "what")
				}
				end := word + " 4 0-1"
				line := strings.Repeat(piece, many/len(piece)+1)
				checkLine(t, line[:many-len(end)]+end, "what")
			}
		}
	}
}

// checkLines tells if lines have other answers than those that are wanted, or another number of them is "what".
func checkLines(t *testing.T, lines []string, want []string, whats int) {
	t.Helper()
	answers, many := impl.LinesTold(lines)
	same := len(answers) == len(want)
	for at := 0; same && at < len(want); at++ {
		same = answers[at] == want[at]
	}
	if !same || many != whats {
		t.Errorf("LinesTold(%.60q) is %q, %d, not %q, %d", lines, answers, many, want, whats)
	}
}

// Promise 71: no line, one, and several ones, of which some are "what" at the beginning, in the middle and at the end, and some are the same.
func TestLinesAreAnsweredOneByOne(t *testing.T) {
	cases := []struct {
		lines   []string
		answers []string
		whats   int
	}{
		{nil, nil, 0},
		{[]string{}, nil, 0},
		{[]string{"wires 4 0-1 1-2 2-3"}, []string{"3"}, 0},
		{[]string{"sides 3 0-1 0-2 1-2"}, []string{"none"}, 0},
		{[]string{"legs 1"}, []string{"0"}, 0},
		{[]string{""}, []string{"what"}, 1},
		{[]string{"what"}, []string{"what"}, 1},
		{[]string{"", ""}, []string{"what", "what"}, 2},
		{[]string{"dance 1", "wires 1", "span 2 0-1"}, []string{"what", "0", "2"}, 1},
		{[]string{"wires 1", "dance 1", "span 2 0-1"}, []string{"0", "what", "2"}, 1},
		{[]string{"wires 1", "span 2 0-1", "dance 1"}, []string{"0", "2", "what"}, 1},
		{[]string{"dance 1", "wires 1", "wires", "span 2 0-1", "span 2 1-0"}, []string{"what", "0", "what", "2", "what"}, 3},
		{[]string{"dance 1", "dance 1", "wires 2 0-1"}, []string{"what", "what", "1"}, 2},
		{[]string{"wires 2 0-1", "wires 2 0-1"}, []string{"1", "1"}, 0},
		{[]string{"wires 2 0-1", "near 2 0-1", "wires 2 0-1"}, []string{"1", "1", "1"}, 0},
		{[]string{"sides 2", "dance 1", "sides 2", "dance 1", "sides 2"}, []string{"3", "what", "3", "what", "3"}, 2},
		{[]string{"sides 3 0-1 0-2 1-2", "legs 2", "what", "none", "friendly 4 0-1 2-3"}, []string{"none", "none", "what", "what", "none"}, 2},
		{[]string{"width 4 0-1 0-2 0-3", "length 4 0-1 0-2 0-3", "cut 4 0-1 0-2 0-3"}, []string{"2", "4", "2"}, 0},
		{[]string{"wires 1\nwires 1", "wires 1"}, []string{"what", "0"}, 1},
	}
	for _, c := range cases {
		checkLines(t, c.lines, c.answers, c.whats)
	}
}

// Promise 71: each answer is that to its line alone, wherever it stands, and as many are "what" as told: all lists of a few lines.
func TestAnswersHangOnTheirLinesAlone(t *testing.T) {
	lines := []string{"wires 4 0-1 1-2 2-3", "", "legs 3", "span 4 1-0", "unlike 2", "friendly 4 0-1"}
	answers := []string{"3", "what", "none", "what", "0", "3"}
	for many := 0; many <= 5; many++ {
		eachRow(many, 0, len(lines)-1, func(row []int) {
			var asked, want []string
			whats := 0
			for _, at := range row {
				asked = append(asked, lines[at])
				want = append(want, answers[at])
				if at == 1 || at == 3 {
					whats++
				}
			}
			checkLines(t, asked, want, whats)
		})
	}
}

// Promise 71: many lines.
func TestManyLines(t *testing.T) {
	nets := netsByText(t)
	lines := badLines()
	for _, c := range toldNets() {
		for _, word := range lineWords() {
			lines = append(lines, word+" "+c.text)
		}
	}
	for _, text := range badTexts() {
		lines = append(lines, "paths "+text)
	}
	var want []string
	whats := 0
	for _, line := range lines {
		if answer := impl.LineTold(line); answer != answerTo(line, nets) {
			t.Errorf("LineTold(%q) is %q", line, answer)
		}
		want = append(want, impl.LineTold(line))
		if want[len(want)-1] == "what" {
			whats++
		}
	}
	checkLines(t, lines, want, whats)
	if whats != len(badLines())+len(badTexts()) {
		t.Errorf("%d lines are not understood", whats)
	}
	// The same ones the other way round.
	for at, other := 0, len(lines)-1; at < other; at, other = at+1, other-1 {
		lines[at], lines[other] = lines[other], lines[at]
		want[at], want[other] = want[other], want[at]
	}
	checkLines(t, lines, want, whats)
}
