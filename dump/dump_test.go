package dump_test

import (
	"slices"
	"strings"
	"testing"

	"milestone/api"
	"milestone/dump"
)

// P4.1

func TestWriteOfTheDocument(t *testing.T) {
	x := makeTable(t, 2, 100)
	askWrite(t, x, cubesOf(t, x, "11"), []byte{2, 0, 0, 0, 2, 1, 0, 0, 0, 0, 0, 0, 0, 1, 0, 0, 0, 0, 0, 0, 0, 0, 2})
	askWrite(t, x, 1, []byte{2, 0, 0, 0, 0, 1})
}

func TestWriteOfTheEnds(t *testing.T) {
	for _, bits := range []int{1, 2, 127, 128} {
		for _, limit := range []int{0, 1, api.MaxNodes} {
			x := makeTable(t, bits, limit)
			askWrite(t, x, 0, []byte{byte(bits), 0, 0, 0, 0, 0})
			askWrite(t, x, 1, []byte{byte(bits), 0, 0, 0, 0, 1})
		}
	}
}

func TestWriteOfOneNode(t *testing.T) {
	x := makeTable(t, 1, 2)
	askWrite(t, x, cubesOf(t, x, "1"), []byte{1, 0, 0, 0, 1, 0, 0, 0, 0, 0, 0, 0, 0, 1})
	askWrite(t, x, cubesOf(t, x, "0"), []byte{1, 0, 0, 0, 1, 0, 0, 0, 0, 1, 0, 0, 0, 0})
	y := makeTable(t, 128, 1)
	askWrite(t, y, cubesOf(t, y, strings.Repeat("x", 127)+"1"), []byte{128, 0, 0, 0, 1, 127, 0, 0, 0, 0, 0, 0, 0, 1})
}

// The nodes of Low come ahead of those of High, and both ahead of their own one.
func TestWriteOfTwoSides(t *testing.T) {
	x := makeTable(t, 3, 10)
	askWrite(t, x, cubesOf(t, x, "01x", "1x0"), []byte{3, 0, 0, 0, 3,
		1, 0, 0, 0, 0, 0, 0, 0, 1,
		2, 0, 0, 0, 1, 0, 0, 0, 0,
		0, 0, 0, 0, 2, 0, 0, 0, 3})
}

func TestWriteOfAllBits(t *testing.T) {
	x := makeTable(t, 128, 128)
	want := []byte{128, 0, 0, 0, 128}
	for i := range 128 {
		low := byte(i + 1)
		if i == 0 {
			low = 1
		}
		want = append(want, byte(127-i), 0, 0, 0, low, 0, 0, 0, 0)
	}
	askWrite(t, x, cubesOf(t, x, strings.Repeat("0", 128)), want)
}

// Numbers of more than one byte and of more than two: the greatest byte is first.
func TestWriteOfMany(t *testing.T) {
	for _, half := range []int{7, 8, 15} {
		x := makeTable(t, 2*half, api.MaxNodes)
		l := alikeList(half)
		want := bytesOf(2*half, l, 0)
		a, at, e := dump.Read(x, want)
		if at != 0 || e != api.OK {
			t.Fatalf("Read: %d, %v", at, e)
		}
		askWrite(t, x, a, want)
		askRead(t, x, want, a)
		same(t, "nodes", x.Size(), len(l))
		n := len(l)
		same(t, "the bytes of how many", string(want[1:5]), string([]byte{0, byte(n / 65536), byte(n / 256 % 256), byte(n % 256)}))
		word := strings.Repeat("01101", 3)[:half]
		in, _ := x.Has(a, word+word)
		same(t, "Has of two halves that are alike", in, true)
		in, _ = x.Has(a, word+word[:half-1]+string('0'+'1'-word[half-1]))
		same(t, "Has of two that are not", in, false)
	}
}

// P4.2

func TestReadOfTheDocument(t *testing.T) {
	x := makeTable(t, 2, 100)
	a := cubesOf(t, x, "11")
	askRead(t, x, []byte{2, 0, 0, 0, 2, 1, 0, 0, 0, 0, 0, 0, 0, 1, 0, 0, 0, 0, 0, 0, 0, 0, 2}, a)
	askRead(t, x, []byte{2, 0, 0, 0, 0, 1}, 1)
	askRead(t, x, []byte{2, 0, 0, 0, 0, 0}, 0)
}

func TestReadTells(t *testing.T) {
	x := makeTable(t, 3, 3)
	b := bytesOf(3, []api.Node{{Bit: 2, Low: 0, High: 1}, {Bit: 1, Low: 2, High: 0}, {Bit: 0, Low: 1, High: 3}}, 0)
	a, _, e := dump.Read(x, b)
	same(t, "Read's error", e, api.OK)
	same(t, "size", x.Size(), 3)
	same(t, "text", textIn(t, x, a), "11110100")
	askRead(t, x, b, a)
	same(t, "size behind it again", x.Size(), 3)
}

// A table that is full takes what it has already, and the ends.
func TestReadWithoutRoom(t *testing.T) {
	x := makeTable(t, 2, 1)
	a := cubesOf(t, x, "1x")
	askRead(t, x, bytesOf(2, []api.Node{{Bit: 0, Low: 0, High: 1}}, 0), a)
	askRead(t, x, bytesOf(2, nil, 0), 0)
	askRead(t, x, bytesOf(2, nil, 1), 1)
	askFault(t, x, bytesOf(2, []api.Node{{Bit: 0, Low: 1, High: 0}}, 0), 0, api.ErrFull)
	askFault(t, x, bytesOf(2, []api.Node{{Bit: 1, Low: 0, High: 1}}, 0), 0, api.ErrFull)
	askFault(t, x, bytesOf(2, []api.Node{{Bit: 1, Low: 0, High: 1}, {Bit: 0, Low: 0, High: 2}}, 0), 0, api.ErrFull)
	none := makeTable(t, 2, 0)
	askRead(t, none, bytesOf(2, nil, 1), 1)
	askFault(t, none, bytesOf(2, []api.Node{{Bit: 0, Low: 0, High: 1}}, 0), 0, api.ErrFull)
}

// Some of the nodes are there: these need no room.
func TestReadWithRoomForTheRest(t *testing.T) {
	b := bytesOf(2, []api.Node{{Bit: 1, Low: 0, High: 1}, {Bit: 0, Low: 0, High: 2}}, 0)
	for limit, want := range map[int]api.Errno{1: api.ErrFull, 2: api.OK} {
		x := makeTable(t, 2, limit)
		cubesOf(t, x, "x1")
		_, at, e := dump.Read(x, b)
		same(t, "the error", e, want)
		same(t, "the place", at, 0)
		same(t, "size", x.Size(), limit)
	}
}

// P4.3

func TestMove(t *testing.T) {
	x, y := makeTable(t, 2, 100), makeTable(t, 2, 100)
	one, two, both := cubesOf(t, x, "1x"), cubesOf(t, x, "x1"), cubesOf(t, x, "11")
	// What the other table has told already makes its refs unlike those here.
	three, there := cubesOf(t, y, "00"), cubesOf(t, y, "11")
	l, e := dump.Move(x, y, both, 1, two, 0, one)
	if e != api.OK || len(l) != 5 {
		t.Fatalf("Move: %v, %v", l, e)
	}
	same(t, "a function that it has", l[0], there)
	same(t, "yes", l[1], api.Ref(1))
	same(t, "no", l[3], api.Ref(0))
	for i, want := range []string{"0001", "1111", "0101", "0000", "0011"} {
		same(t, "text", textIn(t, y, l[i]), want)
	}
	same(t, "a function of its own", textIn(t, y, three), "1000")
	same(t, "the size of the first table", x.Size(), 3)
}

func TestMoveOfNothing(t *testing.T) {
	x, y := makeTable(t, 2, 100), makeTable(t, 2, 0)
	cubesOf(t, x, "11")
	askMove(t, x, y, nil, nil)
	askMove(t, x, y, []api.Ref{}, nil)
	same(t, "size", y.Size(), 0)
}

func TestMoveTwice(t *testing.T) {
	x, y := makeTable(t, 2, 100), makeTable(t, 2, 2)
	cubesOf(t, y, "1x")
	b := cubesOf(t, x, "x1")
	l, e := dump.Move(x, y, b, 1, b, b)
	if e != api.OK || len(l) != 4 || l[0] != l[2] || l[2] != l[3] || l[1] != 1 {
		t.Errorf("Move: %v, %v", l, e)
	}
	same(t, "text", textIn(t, y, l[0]), "0101")
	askMove(t, x, y, []api.Ref{b}, l[:1])
	same(t, "size", y.Size(), 2)
}

func TestMoveToItself(t *testing.T) {
	x := makeTable(t, 2, 3)
	a, b := cubesOf(t, x, "1x"), cubesOf(t, x, "11")
	askMove(t, x, x, []api.Ref{b, 0, a, 1, b}, []api.Ref{b, 0, a, 1, b})
	same(t, "size", x.Size(), 3)
}

// Those ahead of what the other table does not take are told by it; those behind are not, even where there is room for them.
func TestMoveOfSome(t *testing.T) {
	x := makeTable(t, 2, 100)
	one, two, both := cubesOf(t, x, "1x"), cubesOf(t, x, "x1"), cubesOf(t, x, "11")
	for limit := range 5 {
		y := makeTable(t, 2, limit)
		if limit < 3 { // both needs two nodes beside that of one, of which two needs one alone
			askNoMove(t, x, y, []api.Ref{one, 1, both, two}, api.ErrFull, min(limit, 1))
			continue
		}
		l, e := dump.Move(x, y, one, 1, both, two)
		same(t, "Move's error", e, api.OK)
		same(t, "refs", len(l), 4)
		same(t, "size", y.Size(), 3)
	}
	y := makeTable(t, 2, 1)
	askNoMove(t, x, y, []api.Ref{both, one}, api.ErrFull, 0)
	askNoMove(t, x, y, []api.Ref{one, both, one}, api.ErrFull, 1)
	// The one node is that of the first function: it is told, and no other one has room.
	_, e := y.Cube("1x")
	same(t, "Cube's error of what is told", e, api.OK)
	_, e = y.Cube("x1")
	same(t, "Cube's error of what is not", e, api.ErrFull)
	askMove(t, x, y, []api.Ref{1, 0}, []api.Ref{1, 0})
}

func TestMoveBetweenGreatTables(t *testing.T) {
	x, y := makeTable(t, 128, 1000), makeTable(t, 128, 1000)
	a := cubesOf(t, x, strings.Repeat("10x1", 32), strings.Repeat("0x", 64))
	l, e := dump.Move(x, y, a)
	if e != api.OK || len(l) != 1 {
		t.Fatalf("Move: %v, %v", l, e)
	}
	want, _ := dump.Write(x, a)
	askWrite(t, y, l[0], want)
	got, _ := x.Cubes(a, 1000)
	moved, _ := y.Cubes(l[0], 1000)
	same(t, "the cubes are the same", slices.Equal(got, moved), true)
}

// Many refs in one call, two of them again and again.
func TestMoveOfManyRefs(t *testing.T) {
	x, y := makeTable(t, 16, 10000), makeTable(t, 16, 10000)
	a, _, e := x.Make(alikeList(8))
	same(t, "Make's error", e, api.OK)
	refs := slices.Repeat([]api.Ref{a, 1}, 1<<16)
	l, e := dump.Move(x, y, refs...)
	if e != api.OK || len(l) != len(refs) {
		t.Fatalf("%d refs, %v", len(l), e)
	}
	same(t, "all are alike", slices.Equal(l, slices.Repeat([]api.Ref{l[0], 1}, 1<<16)), true)
}

// Refs from ahead of a Keep are not told; those that it told are.
func TestBehindKeep(t *testing.T) {
	x, y := makeTable(t, 2, 10), makeTable(t, 2, 10)
	a, b := cubesOf(t, x, "11"), cubesOf(t, x, "1x")
	want, _ := dump.Write(x, a)
	kept, e := x.Keep(a)
	same(t, "Keep's error", e, api.OK)
	askWrite(t, x, kept[0], want)
	askRead(t, x, want, kept[0])
	l, e := dump.Move(x, y, kept[0])
	same(t, "Move's error", e, api.OK)
	same(t, "text", textIn(t, y, l[0]), "0001")
	for _, old := range []api.Ref{a, b} {
		askNoWrite(t, x, old, api.ErrRef)
		askNoMove(t, x, y, []api.Ref{old}, api.ErrRef, 2)
	}
}

// What is handed on by bytes and what is moved are the same.
func TestMoveIsReadOfWrite(t *testing.T) {
	x := makeTable(t, 3, 100)
	refs := everyFunction(t, x, []string{"01101001", "11110000", "00010111", "10000000"})
	y, z := makeTable(t, 3, 100), makeTable(t, 3, 100)
	for s, a := range refs {
		b, e := dump.Write(x, a)
		same(t, "Write's error", e, api.OK)
		read, _, e := dump.Read(y, b)
		same(t, "Read's error", e, api.OK)
		moved, e := dump.Move(x, z, a)
		same(t, "Move's error", e, api.OK)
		same(t, "the text by Read", textIn(t, y, read), s)
		same(t, "the text by Move", textIn(t, z, moved[0]), s)
	}
	same(t, "sizes", y.Size(), z.Size())
}
