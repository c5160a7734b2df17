package dump_test

import (
	"encoding/binary"
	"math/rand"
	"slices"
	"testing"

	"milestone/api"
	"milestone/dump"
)

// TestThereAndBack: P4.4 for each function of up to three bits, in its own table and in another one.
func TestThereAndBack(t *testing.T) {
	for bits := 1; bits <= 3; bits++ {
		x, y := makeTable(t, bits, 10000), makeTable(t, bits, 10000)
		refs := everyFunction(t, x, texts(bits))
		for s, a := range refs {
			l, _ := x.List(a)
			want := bytesOf(bits, l, int(a))
			askWrite(t, x, a, want)
			askRead(t, x, want, a)
			there, _, e := dump.Read(y, want)
			same(t, "Read's error", e, api.OK)
			same(t, "text", textIn(t, y, there), s)
			askWrite(t, y, there, want)
		}
		same(t, "sizes", x.Size(), y.Size())
	}
}

// TestCanonical: P4.5 for each two functions of up to three bits, of tables that told them in another order.
func TestCanonical(t *testing.T) {
	for bits := 1; bits <= 3; bits++ {
		x, y := makeTable(t, bits, 10000), makeTable(t, bits, 10000)
		all := texts(bits)
		first := everyFunction(t, x, all)
		rand.New(rand.NewSource(int64(bits))).Shuffle(len(all), func(i, j int) { all[i], all[j] = all[j], all[i] })
		second := everyFunction(t, y, all)
		seen := map[string]string{}
		for s, a := range first {
			b, e := dump.Write(x, a)
			same(t, "Write's error", e, api.OK)
			if other, ok := seen[string(b)]; ok {
				t.Errorf("%s and %s have the same bytes", s, other)
			}
			seen[string(b)] = s
		}
		for s, a := range second {
			b, e := dump.Write(y, a)
			same(t, "Write's error", e, api.OK)
			same(t, "the function of the same bytes", seen[string(b)], s)
		}
	}
}

// TestMoveOfEveryFunction: P4.3 for lists of functions that nobody chose by hand.
func TestMoveOfEveryFunction(t *testing.T) {
	x, y := makeTable(t, 3, 10000), makeTable(t, 3, 10000)
	all := texts(3)
	here := everyFunction(t, x, all)
	slices.Reverse(all)
	there := everyFunction(t, y, all)
	rnd := rand.New(rand.NewSource(4))
	for range 500 {
		var l, want []api.Ref
		for range rnd.Intn(20) {
			s := all[rnd.Intn(len(all))]
			l, want = append(l, here[s]), append(want, there[s])
		}
		askMove(t, x, y, l, want)
	}
}

// TestMoveIntoSmallTables: P4.3 by its words: the functions are taken one by one, till the first one that does not fit.
func TestMoveIntoSmallTables(t *testing.T) {
	x := makeTable(t, 3, 10000)
	all := texts(3)
	here := everyFunction(t, x, all)
	rnd := rand.New(rand.NewSource(5))
	full := 0
	for range 2000 {
		limit := rnd.Intn(12)
		y, z := makeTable(t, 3, limit), makeTable(t, 3, limit)
		var l, want []api.Ref
		var texts []string
		e := api.OK
		for range rnd.Intn(6) {
			s := all[rnd.Intn(len(all))]
			texts = append(texts, s)
			l = append(l, here[s])
			if e == api.OK {
				var b []byte
				var a api.Ref
				b, _ = dump.Write(x, here[s])
				a, _, e = dump.Read(z, b)
				want = append(want, a)
			}
		}
		if e != api.OK {
			full++
			askNoMove(t, x, y, l, api.ErrFull, z.Size())
			continue
		}
		askMove(t, x, y, l, want)
		for i, a := range want {
			same(t, "text", textIn(t, y, a), texts[i])
		}
		same(t, "size", y.Size(), z.Size())
	}
	if full < 100 || full > 1900 {
		t.Errorf("%d of 2000 are too great", full)
	}
}

// reading is P4.2 by its words: known are the bytes of all functions.
func reading(t *testing.T, bits int, known map[string]string, b []byte) (string, int) {
	if s, ok := known[string(b)]; ok {
		return s, 0
	}
	if len(b) == 0 || int(b[0]) != bits {
		return "", 0
	}
	if len(b) < 5 || binary.BigEndian.Uint32(b[1:]) > 1<<20 {
		return "", 1
	}
	n := int(binary.BigEndian.Uint32(b[1:]))
	if n == 0 && (len(b) == 5 || b[5] > 1) {
		return "", 5
	}
	if n == 0 {
		return "", 6
	}
	if len(b) != 5+9*n {
		return "", min(len(b), 5+9*n)
	}
	var l []api.Node
	for at := 5; at < len(b); at += 9 {
		l = append(l, api.Node{Bit: int(b[at]), Low: int(binary.BigEndian.Uint32(b[at+1:])), High: int(binary.BigEndian.Uint32(b[at+5:]))})
	}
	_, at, e := makeTable(t, bits, 100).Make(l)
	same(t, "Make's error", e, api.ErrList)
	return "", 5 + 9*at
}

// TestEveryByte spoils the bytes of each function of up to two bits, in all ways at one place and in some at two.
func TestEveryByte(t *testing.T) {
	for bits := 1; bits <= 2; bits++ {
		x := makeTable(t, bits, 100)
		known, ref := map[string]string{}, everyFunction(t, x, texts(bits))
		for s, a := range ref {
			b, _ := dump.Write(x, a)
			known[string(b)] = s
		}
		ask := func(b []byte) {
			t.Helper()
			if s, place := reading(t, bits, known, b); s != "" {
				askRead(t, x, b, ref[s])
			} else {
				askFault(t, x, b, place, api.ErrDump)
			}
		}
		for s := range known {
			for n := range len(s) {
				ask([]byte(s[:n]))
			}
			for at := range len(s) {
				for v := range 256 {
					ask([]byte(s[:at] + string([]byte{byte(v)}) + s[at+1:]))
					ask([]byte(s[:at] + string([]byte{byte(v)}) + s[at:]))
				}
				ask([]byte(s[:at] + s[at+1:]))
				for other := range at {
					for v := range 16 {
						b := []byte(s)
						b[at], b[other] = byte(v%4), byte(v/4)
						ask(b)
					}
				}
			}
		}
	}
}
