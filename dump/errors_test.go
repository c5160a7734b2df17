package dump_test

import (
	"math"
	"slices"
	"testing"

	"milestone/api"
	"milestone/bdd"
	"milestone/dump"
)

// askNoWrite asks Write and Size for an error with nothing beside it.
func askNoWrite(t *testing.T, x *bdd.Table, a api.Ref, want api.Errno) {
	t.Helper()
	if b, e := dump.Write(x, a); len(b) != 0 || e != want {
		t.Errorf("Write(%d) = %v, %v, want %v", a, b, e, want)
	}
	if n, e := dump.Size(x, a); n != 0 || e != want {
		t.Errorf("Size(%d) = %d, %v, want %v", a, n, e, want)
	}
}

// noTables are tables that no call made.
func noTables(t *testing.T) map[string]*bdd.Table {
	x := makeTable(t, 2, 9)
	cubesOf(t, x, "11")
	copied := *x
	return map[string]*bdd.Table{"nil": nil, "zero": {}, "a copy": &copied}
}

// Rule 3, in P4.1 to P4.3: also at the ends and at no refs, and ahead of all other errors.
func TestNoTable(t *testing.T) {
	x, wide := makeTable(t, 2, 9), makeTable(t, 3, 9)
	for name, no := range noTables(t) {
		t.Log(name)
		for _, a := range []api.Ref{0, 1, 2, -1, 99} {
			askNoWrite(t, no, a, api.ErrNil)
		}
		for _, b := range [][]byte{nil, {0}, {0, 0, 0, 0, 0, 0}, {2}, {2, 0, 0, 0, 0, 1}, {2, 0, 0, 0, 0, 2}, {2, 0, 0, 0, 1, 0, 0, 0, 0, 0, 0, 0, 0, 1}} {
			askFault(t, no, b, 0, api.ErrNil)
		}
		for _, l := range [][]api.Ref{nil, {0}, {1}, {99}} {
			askNoMove(t, no, x, l, api.ErrNil, 0)
			askNoMove(t, x, no, l, api.ErrNil, 0)
			askNoMove(t, no, wide, l, api.ErrNil, 0)
			askNoMove(t, no, no, l, api.ErrNil, 0)
		}
	}
}

// P4.1, P4.3
func TestRefsThatAreNotTold(t *testing.T) {
	x := makeTable(t, 2, 9)
	a := cubesOf(t, x, "1x")
	for _, no := range []api.Ref{-1, -2, a + 1, 99, 1 << 32, math.MaxInt, math.MinInt} {
		askNoWrite(t, x, no, api.ErrRef)
		y := makeTable(t, 2, 9)
		askNoMove(t, x, y, []api.Ref{no}, api.ErrRef, 0)
		// Nothing has changed: neither those ahead nor those behind are told.
		askNoMove(t, x, y, []api.Ref{a, no}, api.ErrRef, 0)
		askNoMove(t, x, y, []api.Ref{1, a, no, a}, api.ErrRef, 0)
		askNoMove(t, x, y, []api.Ref{no, a}, api.ErrRef, 0)
		askNoMove(t, x, x, []api.Ref{no}, api.ErrRef, 1)
	}
	// A ref that the other table alone has told.
	y := makeTable(t, 2, 9)
	askNoMove(t, y, x, []api.Ref{a}, api.ErrRef, 1)
	empty := makeTable(t, 2, 9)
	askNoWrite(t, empty, a, api.ErrRef)
}

// P4.3
func TestUnlikeWidths(t *testing.T) {
	for _, c := range [][2]int{{1, 2}, {2, 1}, {127, 128}, {128, 1}} {
		x, y := makeTable(t, c[0], 9), makeTable(t, c[1], 9)
		for _, l := range [][]api.Ref{nil, {0}, {1, 1}, {99}, {-1}} {
			askNoMove(t, x, y, l, api.ErrWidth, 0)
		}
	}
}

func TestWhichErrorOfMoveIsFirst(t *testing.T) {
	x, full, wide := makeTable(t, 2, 9), makeTable(t, 2, 0), makeTable(t, 3, 0)
	a := cubesOf(t, x, "1x")
	askNoMove(t, x, full, []api.Ref{a}, api.ErrFull, 0)
	askNoMove(t, x, full, []api.Ref{a, 99}, api.ErrRef, 0)
	askNoMove(t, x, full, []api.Ref{99, a}, api.ErrRef, 0)
	askNoMove(t, x, wide, []api.Ref{a, 99}, api.ErrWidth, 0)
	askNoMove(t, x, nil, []api.Ref{a, 99}, api.ErrNil, 0)
}

// P4.2: the first byte.
func TestReadOfAnotherWidth(t *testing.T) {
	x := makeTable(t, 2, 9)
	askFault(t, x, nil, 0, api.ErrDump)
	askFault(t, x, []byte{}, 0, api.ErrDump)
	for bits := range 256 {
		if bits != 2 {
			askFault(t, x, []byte{byte(bits)}, 0, api.ErrDump)
			askFault(t, x, []byte{byte(bits), 0, 0, 0, 0, 1}, 0, api.ErrDump)
			askFault(t, x, []byte{byte(bits), 255, 0}, 0, api.ErrDump)
		}
	}
	least, most := makeTable(t, 1, 0), makeTable(t, 128, 0)
	askFault(t, least, []byte{0, 0, 0, 0, 0, 1}, 0, api.ErrDump)
	askFault(t, least, []byte{2, 0, 0, 0, 0, 1}, 0, api.ErrDump)
	askFault(t, most, []byte{127, 0, 0, 0, 0, 1}, 0, api.ErrDump)
	askFault(t, most, []byte{129, 0, 0, 0, 0, 1}, 0, api.ErrDump)
}

// P4.2: how many nodes.
func TestReadOfNumbers(t *testing.T) {
	x := makeTable(t, 2, 9)
	for n := 1; n < 5; n++ {
		askFault(t, x, make2(n, 0), 1, api.ErrDump)
		askFault(t, x, make2(n, 255), 1, api.ErrDump)
	}
	askFault(t, x, []byte{2, 0, 16, 0, 0}, 5, api.ErrDump)    // MaxNodes
	askFault(t, x, []byte{2, 0, 16, 0, 0, 1}, 6, api.ErrDump) // bytes are missing, be it many
	askFault(t, x, []byte{2, 0, 15, 255, 255, 1, 2}, 7, api.ErrDump)
	askFault(t, x, []byte{2, 0, 16, 0, 1}, 1, api.ErrDump)
	askFault(t, x, []byte{2, 0, 17, 0, 0, 1}, 1, api.ErrDump)
	askFault(t, x, []byte{2, 1, 0, 0, 0, 1}, 1, api.ErrDump)
	askFault(t, x, []byte{2, 1, 0, 0, 1}, 1, api.ErrDump)
	askFault(t, x, []byte{2, 127, 255, 255, 255, 0}, 1, api.ErrDump)
	askFault(t, x, []byte{2, 128, 0, 0, 0, 1}, 1, api.ErrDump)
	askFault(t, x, []byte{2, 255, 255, 255, 255, 1, 1}, 1, api.ErrDump)
	long := make2(5+9*(api.MaxNodes+1), 0)
	copy(long, []byte{2, 0, 16, 0, 1})
	askFault(t, x, long, 1, api.ErrDump)
	copy(long, []byte{2, 0, 16, 0, 0})
	askFault(t, x, long, 5+9*api.MaxNodes, api.ErrDump)
	askFault(t, x, long[:5+9*api.MaxNodes], 5, api.ErrDump) // as many as may be: the first node is none
}

// make2 is 2 and other bytes that are alike.
func make2(length int, other byte) []byte {
	b := slices.Repeat([]byte{other}, length)
	b[0] = 2
	return b
}

// P4.2: of no nodes.
func TestReadOfWrongEnds(t *testing.T) {
	x := makeTable(t, 2, 9)
	askFault(t, x, []byte{2, 0, 0, 0, 0}, 5, api.ErrDump)
	for b := 2; b < 256; b++ {
		askFault(t, x, []byte{2, 0, 0, 0, 0, byte(b)}, 5, api.ErrDump)
		askFault(t, x, []byte{2, 0, 0, 0, 0, byte(b), 0}, 5, api.ErrDump)
	}
	for _, end := range []byte{0, 1} {
		askFault(t, x, []byte{2, 0, 0, 0, 0, end, 0}, 6, api.ErrDump)
		askFault(t, x, []byte{2, 0, 0, 0, 0, end, 1}, 6, api.ErrDump)
		askFault(t, x, []byte{2, 0, 0, 0, 0, end, 9, 9}, 6, api.ErrDump)
		askFault(t, x, append([]byte{2, 0, 0, 0, 0, end}, make([]byte, 9)...), 6, api.ErrDump)
	}
}

// P4.2: of some nodes, too few bytes and too many.
func TestReadOfWrongLengths(t *testing.T) {
	x := makeTable(t, 2, 9)
	both := []api.Node{{Bit: 1, Low: 0, High: 1}, {Bit: 0, Low: 0, High: 2}}
	for _, l := range [][]api.Node{both[:1], both, {{Bit: 9, Low: 9, High: 9}}} {
		b := bytesOf(2, l, 0)
		for n := 5; n < len(b); n++ {
			askFault(t, x, b[:n], n, api.ErrDump)
		}
		for more := 1; more < 30; more++ {
			askFault(t, x, append(slices.Clone(b), make([]byte, more)...), len(b), api.ErrDump)
		}
	}
	askFault(t, x, append([]byte{2, 0, 0, 0, 1}, bytesOf(2, both, 0)[5:]...), 14, api.ErrDump)
}

// P4.2: nodes that are no list.
func TestReadOfNoList(t *testing.T) {
	x := makeTable(t, 3, 9)
	ok := api.Node{Bit: 2, Low: 0, High: 1}
	for _, n := range []api.Node{
		{Bit: 3, Low: 0, High: 1}, {Bit: 255, Low: 0, High: 1}, {Bit: 0, Low: 0, High: 0}, {Bit: 0, Low: 1, High: 1},
		{Bit: 0, Low: 4, High: 1}, {Bit: 0, Low: 0, High: 4}, {Bit: 0, Low: 0, High: 3}, {Bit: 0, Low: 3, High: 0}, {Bit: 0, Low: math.MaxInt32, High: 1}, {Bit: 0, Low: 0, High: math.MaxUint32},
		{Bit: 0, Low: 1 << 31, High: 1}, {Bit: 0, Low: 256, High: 1}, {Bit: 0, Low: 0, High: 1 << 24},
	} {
		askFault(t, x, bytesOf(3, []api.Node{n}, 0), 5, api.ErrDump)
		askFault(t, x, bytesOf(3, []api.Node{n, ok}, 0), 5, api.ErrDump)
		askFault(t, x, bytesOf(3, []api.Node{ok, n}, 0), 14, api.ErrDump)
	}
	askFault(t, x, bytesOf(3, []api.Node{{Bit: 0, Low: 0, High: 2}}, 0), 5, api.ErrDump)
	askFault(t, x, bytesOf(3, []api.Node{ok, {Bit: 2, Low: 0, High: 2}}, 0), 14, api.ErrDump)
	askFault(t, x, bytesOf(3, []api.Node{ok, ok}, 0), 14, api.ErrDump)
	askFault(t, x, bytesOf(3, []api.Node{ok, {Bit: 1, Low: 0, High: 2}, ok}, 0), 23, api.ErrDump)
	// Each node may be there, but it is not the list of the last one: a node that this does not need, another order.
	askFault(t, x, bytesOf(3, []api.Node{ok, {Bit: 2, Low: 1, High: 0}}, 0), 23, api.ErrDump)
	askFault(t, x, bytesOf(3, []api.Node{ok, {Bit: 2, Low: 1, High: 0}, {Bit: 0, Low: 3, High: 2}}, 0), 32, api.ErrDump)
}

// P4.2: a list that is none, in a table without room: that it is none comes first.
func TestReadOfNoListWithoutRoom(t *testing.T) {
	x := makeTable(t, 3, 0)
	ok := api.Node{Bit: 2, Low: 0, High: 1}
	askFault(t, x, bytesOf(3, []api.Node{ok}, 0), 0, api.ErrFull)
	askFault(t, x, bytesOf(3, []api.Node{ok, ok}, 0), 14, api.ErrDump)
	askFault(t, x, bytesOf(3, []api.Node{ok}, 0)[:13], 13, api.ErrDump)
	askFault(t, x, append(bytesOf(3, []api.Node{ok}, 0), 0), 14, api.ErrDump)
}

// Nothing is kept, nothing that is handed in is changed, and no two answers share memory.
func TestNothingKept(t *testing.T) {
	x, y := makeTable(t, 2, 9), makeTable(t, 2, 9)
	a := cubesOf(t, x, "11")
	b, _ := dump.Write(x, a)
	want := slices.Clone(b)
	again, _ := dump.Write(x, a)
	clear(b)
	same(t, "bytes beside spoilt ones", slices.Equal(again, want), true)
	askWrite(t, x, a, want)

	given := append(slices.Clone(want), 7, 7)
	askRead(t, x, given[:len(want)], a)
	same(t, "bytes that were handed in", slices.Equal(given, append(slices.Clone(want), 7, 7)), true)
	clear(given)
	askWrite(t, x, a, want)

	refs := []api.Ref{a, 1, 88, 99}
	first, _ := dump.Move(x, y, refs[:2]...)
	same(t, "refs that were handed in", slices.Equal(refs, []api.Ref{a, 1, 88, 99}), true)
	second, _ := dump.Move(x, y, refs[:2]...)
	clear(first)
	same(t, "yes beside spoilt refs", second[1], api.Ref(1))
	same(t, "refs behind a spoilt answer", slices.Equal(refs, []api.Ref{a, 1, 88, 99}), true)
	// Of the same table the refs are the same, and yet another list.
	own, _ := dump.Move(x, x, refs[:2]...)
	clear(own)
	same(t, "refs behind a spoilt answer", slices.Equal(refs, []api.Ref{a, 1, 88, 99}), true)
}

// A refused call leaves no trace in the next one.
func TestAfterError(t *testing.T) {
	x, y := makeTable(t, 2, 2), makeTable(t, 2, 2)
	b := bytesOf(2, []api.Node{{Bit: 1, Low: 0, High: 1}, {Bit: 0, Low: 0, High: 2}}, 0)
	askFault(t, x, b[:22], 22, api.ErrDump)
	askFault(t, x, append(b, 0), 23, api.ErrDump)
	askFault(t, x, bytesOf(2, []api.Node{{Bit: 1, Low: 0, High: 1}, {Bit: 0, Low: 0, High: 9}}, 0), 14, api.ErrDump)
	// Of the first node, which might have been there, no ref is told.
	askNoWrite(t, x, 2, api.ErrRef)
	a, _, e := dump.Read(x, b)
	same(t, "Read's error", e, api.OK)
	askWrite(t, x, a, b)
	askNoMove(t, x, y, []api.Ref{a, 99}, api.ErrRef, 0)
	_, e = dump.Move(x, y, a)
	same(t, "Move's error", e, api.OK)
	same(t, "size", y.Size(), 2)
}
