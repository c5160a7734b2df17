package codec_test

import (
	"bytes"
	"math"
	"slices"
	"testing"

	"milestone/api"
	"milestone/codec"
)

// P18.1: a Body that is too long.
func TestFrameTooLong(t *testing.T) {
	for _, n := range []int{65537, 65538, 1 << 17, 1 << 24} {
		if b, e := codec.Frame(api.Frame{Kind: 2, From: 1, Body: make([]byte, n)}); b != nil || e != api.ErrLong {
			t.Errorf("Frame of %d bytes: %d bytes, %v, want ErrLong", n, len(b), e)
		}
	}
}

// said is a frame's bytes in which it is said how many bytes its Body has, with others behind.
func said(n uint32, behind []byte) []byte {
	return row([]byte{'F', 2, 0, 0, 0, 1, 0, 0, 0, 2, 0, 0, 0, 0, 0, 0, 0, 3, 0, 0, 0, 0, 0, 0, 0, 4, byte(n >> 24), byte(n >> 16), byte(n >> 8), byte(n)}, behind)
}

// P18.1: at 0.
func TestNoFrameAtAll(t *testing.T) {
	for _, b := range [][]byte{nil, {}, {0}, {'f'}, {'R'}, {'F' + 1}, {0, 'F'}} {
		askNoFrame(t, b, 0)
	}
	for letter := range 256 {
		for _, b := range [][]byte{said(0, nil), said(2, []byte("hi")), said(2, []byte("h")), said(1<<20, nil), said(0, []byte("hi")), said(0, nil)[:29], {0}} {
			b[0] = byte(letter)
			if letter != 'F' {
				askNoFrame(t, b, 0)
			}
		}
	}
}

// P18.1: how many bytes there are, of fewer than 30; whatever they are.
func TestFrameWithoutItsHead(t *testing.T) {
	for n := 1; n < 30; n++ {
		for _, b := range [][]byte{said(0, nil), said(1, nil), said(1<<32-1, nil), bytes.Repeat([]byte{'F'}, 30)} {
			askNoFrame(t, b[:n], n)
		}
	}
}

// P18.1: at 26, be the bytes there or not.
func TestFrameOfTooLongABody(t *testing.T) {
	for _, n := range []uint32{65537, 65538, 1 << 17, 1<<24 - 1, 1 << 24, 1 << 31, 1<<32 - 1, 1<<32 - 2} {
		for _, behind := range []int{0, 1, 65536} {
			askNoFrame(t, said(n, filled(behind)), 26)
		}
	}
	for _, behind := range []int{65537, 65538, 1 << 18} {
		askNoFrame(t, said(65537, filled(behind)), 26)
	}
}

// P18.1: how many bytes there are, of fewer than are said.
func TestFrameWithoutItsBody(t *testing.T) {
	for _, n := range []uint32{1, 2, 255, 256, 65535, 65536} {
		for _, behind := range []int{0, 1, 254, int(n) - 2, int(n) - 1} {
			if behind >= 0 && behind < int(n) {
				askNoFrame(t, said(n, filled(behind)), 30+behind)
			}
		}
	}
}

// P18.1: the first byte behind.
func TestFrameWithBytesBehind(t *testing.T) {
	for _, n := range []uint32{0, 1, 2, 255, 65535, 65536} {
		for _, more := range []int{1, 2, 30, 70000} {
			askNoFrame(t, said(n, filled(int(n)+more)), 30+int(n))
		}
	}
}

// P18.2, one by one.
func TestWrongResults(t *testing.T) {
	for _, n := range []int{-1, math.MinInt, 64, 65, 65536, 1 << 32, math.MaxInt} {
		r := good()
		r.Invariant = n
		askRefused(t, r, api.ErrArg)
		askRefused(t, api.Result{Invariant: n}, api.ErrArg)
	}
	for _, n := range []int{-1, math.MinInt, 16384, 16385, 1 << 32, math.MaxInt} {
		r := good()
		r.Node = n
		askRefused(t, r, api.ErrArg)
		askRefused(t, api.Result{Node: n}, api.ErrArg)
	}
	for _, v := range noVectors() {
		r := good()
		r.Vector = v
		askRefused(t, r, api.ErrVector)
		askRefused(t, api.Result{Vector: v}, api.ErrVector)
	}
	for _, many := range []int{257, 258, 1 << 16} {
		r := good()
		r.Shares = slices.Repeat(r.Shares[:1], many)
		askRefused(t, r, api.ErrMany)
	}
}

func noVectors() []api.Vector {
	full := make(api.Vector, 257)
	for i := range full {
		full[i].Device = i
	}
	return []api.Vector{
		{{Device: -1}},
		{{Device: 256}},
		{{Device: math.MinInt}},
		{{Device: math.MaxInt}},
		{{Device: 1 << 16}},
		{{Device: 1}, {Device: 1}},
		{{Device: 1}, {Device: 1, Version: 2}},
		{{Device: 1}, {Device: 0}},
		{{Device: 3}, {Device: 5}, {Device: 4}},
		{{Device: 3}, {Device: 256}},
		full,
		make(api.Vector, 257),
	}
}

// P18.2: any of the Shares.
func TestWrongShares(t *testing.T) {
	for _, many := range []int{1, 2, 256} {
		for at := range many {
			r := api.Result{Shares: slices.Repeat([]api.Share{{Counts: 1, Dump: []byte{1}}}, many)}
			r.Shares[at].Counts = 0
			askRefused(t, r, api.ErrCounts)
			r.Shares[0].Dump = nil
			r.Shares[many-1].Dump = nil
			askRefused(t, r, api.ErrCounts)
			r.Shares[at].Counts = 1
			askRefused(t, r, api.ErrDump)
			r.Shares[0].Dump = []byte{1}
			r.Shares[many-1].Dump = []byte{1}
			r.Shares[at].Dump = []byte{}
			askRefused(t, r, api.ErrDump)
		}
	}
}

// P18.2: the first that applies of them all.
func TestWhichComesFirst(t *testing.T) {
	spoil := []struct {
		do func(r *api.Result)
		e  api.Errno
	}{
		{func(r *api.Result) { r.Invariant = 64 }, api.ErrArg},
		{func(r *api.Result) { r.Node = -1 }, api.ErrArg},
		{func(r *api.Result) { r.Vector[0].Device = 100 }, api.ErrVector},
		{func(r *api.Result) { r.Shares = append(r.Shares, slices.Repeat(r.Shares[2:3], 254)...) }, api.ErrMany},
		{func(r *api.Result) { r.Shares[1].Counts = 0 }, api.ErrCounts},
		{func(r *api.Result) { r.Shares[0].Dump = nil }, api.ErrDump},
		{func(r *api.Result) { r.Shares[2].Dump = make([]byte, 1<<20) }, api.ErrLong},
	}
	for set := range 1 << len(spoil) {
		r := good()
		r.Shares = append(r.Shares, api.Share{Counts: 4, Dump: []byte{7}})
		want := api.OK
		for i := len(spoil) - 1; i >= 0; i-- {
			if set>>i&1 == 1 {
				spoil[i].do(&r)
				want = spoil[i].e
			}
		}
		if want != api.OK {
			askRefused(t, r, want)
		} else {
			askResult(t, r, modelResult(r))
		}
	}
}

// P18.3: more bytes than may be, whatever they are.
func TestTooManyBytes(t *testing.T) {
	for _, n := range []int{1<<20 + 1, 1<<20 + 2, 1 << 21} {
		askFault(t, make([]byte, n), 0, api.ErrLong)
		askFault(t, bytes.Repeat([]byte{'R'}, n), 0, api.ErrLong)
		b := make([]byte, n)
		copy(b, modelResult(good()))
		askFault(t, b, 0, api.ErrLong)
	}
	askNoResult(t, make([]byte, 1<<20), 0)
	b := make([]byte, 1<<20)
	copy(b, modelResult(good()))
	askNoResult(t, b, len(modelResult(good())))
}

// fields are the places of the fields of good, and how many bytes each has; but of the Dumps.
var fields = []struct{ at, bytes int }{
	{0, 1}, {1, 2}, {3, 4}, {7, 2}, {9, 10}, {19, 10}, {29, 10}, {39, 2}, {41, 8}, {49, 4}, {56, 8}, {64, 4},
}

// P18.3: each beginning ends in a field that is not all there; one that ends in a Dump has a length of more than are left.
func TestResultsThatEndTooEarly(t *testing.T) {
	b := modelResult(good())
	same(t, "the bytes", len(b), 69)
	for n := range b {
		want := 0
		for _, f := range fields {
			if f.at <= n {
				want = f.at
			}
		}
		if n == 53 || n == 68 {
			want = n - 4 // the length is there, but no byte of its Dump
		}
		askNoResult(t, b[:n], want)
	}
	for _, more := range []int{1, 2, 100} {
		askNoResult(t, row(b, filled(more)), 69)
	}
	askNoResult(t, row(b, b), 69)
}

// with is good's bytes with others in the place of some.
func with(at int, l ...byte) []byte {
	b := modelResult(good())
	copy(b[at:], l)
	return b
}

// P18.3: fields that are there, but may not be.
func TestFieldsThatMayNotBe(t *testing.T) {
	for letter := range 256 {
		if letter != 'R' {
			askNoResult(t, with(0, byte(letter)), 0)
		}
	}
	for _, l := range [][]byte{{0, 64}, {0, 65}, {0, 255}, {1, 0}, {1, 9}, {128, 9}, {255, 255}} {
		askNoResult(t, with(1, l...), 1)
	}
	for _, l := range [][]byte{{0, 0, 64, 0}, {0, 0, 64, 1}, {0, 0, 255, 255}, {0, 1, 0, 0}, {1, 0, 0, 0}, {128, 0, 1, 44}, {255, 255, 255, 255}} {
		askNoResult(t, with(3, l...), 3)
	}
	for _, l := range [][]byte{{1, 1}, {1, 2}, {2, 0}, {128, 3}, {255, 255}} {
		askNoResult(t, with(7, l...), 7)
		askNoResult(t, with(39, l...), 39)
	}
	for _, f := range fields[4:7] {
		for _, l := range [][]byte{{1, 0}, {1, 1}, {1, 7}, {2, 0}, {128, 8}, {255, 255}} {
			askNoResult(t, with(f.at, l...), f.at)
		}
	}
	for _, l := range [][]byte{{0, 0}, {0, 1}, {0, 2}} { // the device ahead is 2
		askNoResult(t, with(19, l...), 19)
	}
	for _, l := range [][]byte{{0, 0}, {0, 6}, {0, 7}} {
		askNoResult(t, with(29, l...), 29)
	}
	for _, at := range []int{41, 56} {
		askNoResult(t, with(at, make([]byte, 8)...), at)
	}
	for _, at := range []int{49, 64} {
		for _, l := range [][]byte{{0, 0, 0, 0}, {0, 0, 0, 200}, {0, 0, 1, 0}, {0, 1, 0, 1}, {0, 16, 0, 0}, {0, 16, 0, 1}, {1, 0, 0, 1}, {128, 0, 0, 1}, {255, 255, 255, 255}} {
			askNoResult(t, with(at, l...), at)
		}
	}
}

// P18.3: a length of all that is left, and of one more.
func TestLengths(t *testing.T) {
	b := modelResult(api.Result{Shares: []api.Share{{Counts: 1, Dump: filled(300)}}})
	for n := range 310 {
		b[21], b[22] = byte(n>>8), byte(n)
		switch {
		case n == 0 || n > 300:
			askNoResult(t, b, 19)
		case n < 300:
			askNoResult(t, b, 23+n)
		default:
			askResult(t, api.Result{Shares: []api.Share{{Counts: 1, Dump: filled(300)}}}, b)
		}
	}
}

// P18.3: the first field that is at fault, of several.
func TestTheFirstFaultOfSeveral(t *testing.T) {
	bad := []struct {
		at int
		to []byte
	}{{0, []byte{'F'}}, {1, []byte{9}}, {3, []byte{9}}, {9, []byte{9}}, {19, []byte{0, 1}}, {29, []byte{9}}, {39, []byte{9}}, {41, make([]byte, 8)}, {49, []byte{9}}, {56, make([]byte, 8)}, {64, []byte{0, 0, 0, 0}}}
	for set := 1; set < 1<<len(bad); set++ {
		b, want := modelResult(good()), -1
		for i, x := range bad {
			if set>>i&1 == 1 {
				copy(b[x.at:], x.to)
				if want < 0 {
					want = x.at
				}
			}
		}
		askNoResult(t, b, want)
		askNoResult(t, append(b, 0), want)
	}
}

// P18.3: more stamps, or Shares, are said than there are, and the fields behind are read as these.
func TestMoreThanThereAre(t *testing.T) {
	askNoResult(t, []byte{'R', 0, 0, 0, 0, 0, 0, 1, 0}, 9)
	askNoResult(t, []byte{'R', 0, 0, 0, 0, 0, 0, 0, 1, 0, 0}, 9)
	askNoResult(t, []byte{'R', 0, 0, 0, 0, 0, 0, 0, 0, 1, 0}, 11)
	askNoResult(t, row([]byte{'R', 0, 0, 0, 0, 0, 0, 1, 0}, make([]byte, 10)), 19)
	askNoResult(t, row([]byte{'R', 0, 0, 0, 0, 0, 0, 1, 0}, make([]byte, 20)), 19)
	askNoResult(t, row([]byte{'R', 0, 0, 0, 0, 0, 0, 0, 0, 1, 0}, []byte{0, 0, 0, 0, 0, 0, 0, 1, 0, 0, 0, 1, 5}), 24)
}
