package codec_test

import (
	"bytes"
	"math"
	"testing"

	"milestone/api"
	"milestone/codec"
)

// The chapter's example: a hello of boot 5 that knows nobody.
func TestExample(t *testing.T) {
	b := []byte{70, 1, 0, 0, 0, 5, 29: 0}
	same(t, "it has bytes", len(b), 30)
	askFrame(t, api.Frame{Kind: api.FrameHello, From: 5}, b)
	askNoFrame(t, b[:29], 29)
}

// P18.1: each field where it stands, the greatest byte first.
func TestFrame(t *testing.T) {
	askFrame(t, api.Frame{Kind: api.FrameData, From: 5, To: 258, Seq: 3, Ack: 4, Body: []byte("hi")},
		[]byte{'F', 2, 0, 0, 0, 5, 0, 0, 1, 2, 0, 0, 0, 0, 0, 0, 0, 3, 0, 0, 0, 0, 0, 0, 0, 4, 0, 0, 0, 2, 'h', 'i'})
	askFrame(t, api.Frame{Kind: api.FrameAck, From: 0x01020304, To: 0x05060708, Seq: 0x090a0b0c0d0e0f10, Ack: 0x1112131415161718},
		[]byte{'F', 3, 1, 2, 3, 4, 5, 6, 7, 8, 9, 10, 11, 12, 13, 14, 15, 16, 17, 18, 19, 20, 21, 22, 23, 24, 0, 0, 0, 0})
	askFrame(t, api.Frame{}, []byte{'F', 29: 0})
	all := bytes.Repeat([]byte{255}, 25)
	askFrame(t, api.Frame{Kind: math.MaxUint8, From: math.MaxUint32, To: math.MaxUint32, Seq: math.MaxUint64, Ack: math.MaxUint64},
		row([]byte{'F'}, all, []byte{0, 0, 0, 0}))
}

// P18.1: each number alone, at its edges and with one byte after the other.
func TestFrameNumbers(t *testing.T) {
	for shift := range 64 {
		n := uint64(1) << shift
		for _, n := range []uint64{n, n - 1, n | 1, ^n, 0xa5 << shift} {
			for _, f := range []api.Frame{{Kind: api.FrameKind(n)}, {From: uint32(n)}, {To: uint32(n)}, {Seq: n}, {Ack: n}} {
				askFrame(t, f, modelFrame(f))
				f.Body = []byte{byte(n), 'F'}
				askFrame(t, f, modelFrame(f))
			}
		}
	}
}

// P18.1: whether a frame may be is none of codec's business.
func TestFramesThatNobodySends(t *testing.T) {
	for kind := range 256 {
		for _, f := range []api.Frame{{}, {From: 1, Seq: 9, Ack: 9, Body: []byte{1}}, {To: 1}} {
			f.Kind = api.FrameKind(kind)
			askFrame(t, f, modelFrame(f))
		}
	}
}

// P18.1: Bodies of all sizes.
func TestBodies(t *testing.T) {
	for _, n := range []int{0, 1, 2, 29, 30, 31, 255, 256, 257, 65534, 65535, 65536} {
		body := filled(n)
		askFrame(t, api.Frame{Kind: 2, From: 1, To: 2, Seq: 3, Ack: 4, Body: body},
			row([]byte{'F', 2, 0, 0, 0, 1, 0, 0, 0, 2, 0, 0, 0, 0, 0, 0, 0, 3, 0, 0, 0, 0, 0, 0, 0, 4, 0, byte(n >> 16), byte(n >> 8), byte(n)}, body))
	}
	for _, body := range [][]byte{nil, {}} {
		askFrame(t, api.Frame{From: 7, Body: body}, []byte{'F', 0, 0, 0, 0, 7, 29: 0})
	}
}

// P18.2, P18.3: each field where it stands, the greatest byte first.
func TestResult(t *testing.T) {
	askResult(t, api.Result{Invariant: 1, Node: 2, Vector: api.Vector{{Device: 3, Version: 4}}, Shares: []api.Share{{Counts: 5, Dump: []byte{6}}}},
		[]byte{'R', 0, 1, 0, 0, 0, 2, 0, 1, 0, 3, 0, 0, 0, 0, 0, 0, 0, 4, 0, 1, 0, 0, 0, 0, 0, 0, 0, 5, 0, 0, 0, 1, 6})
	askResult(t, good(), row(
		[]byte{'R', 0, 9, 0, 0, 1, 44},
		[]byte{0, 3}, []byte{0, 2, 0, 0, 0, 0, 0, 0, 0, 5}, []byte{0, 7, 0, 0, 1, 0, 0, 0, 0, 0}, []byte{0, 255, 0, 0, 0, 0, 0, 0, 0, 0},
		[]byte{0, 2}, []byte{0, 0, 0, 0, 0, 0, 0, 3, 0, 0, 0, 3, 1, 2, 3}, []byte{128, 0, 0, 0, 0, 0, 0, 0, 0, 0, 0, 1, 4}))
	askResult(t, api.Result{Vector: api.Vector{{Device: 1, Version: 0x0102030405060708}}, Shares: []api.Share{{Counts: 0x090a0b0c0d0e0f10, Dump: []byte("R")}}},
		[]byte{'R', 0, 0, 0, 0, 0, 0, 0, 1, 0, 1, 1, 2, 3, 4, 5, 6, 7, 8, 0, 1, 9, 10, 11, 12, 13, 14, 15, 16, 0, 0, 0, 1, 'R'})
}

// P18.2, P18.3: one that is unknown.
func TestResultOfNothing(t *testing.T) {
	askResult(t, api.Result{}, []byte{'R', 10: 0})
	askResult(t, api.Result{Vector: api.Vector{}, Shares: []api.Share{}}, []byte{'R', 10: 0})
	askResult(t, api.Result{Vector: api.Vector{{Device: 9}}}, []byte{'R', 0, 0, 0, 0, 0, 0, 0, 1, 0, 9, 20: 0})
	askResult(t, api.Result{Shares: []api.Share{{Counts: 1, Dump: []byte{0}}}}, []byte{'R', 0, 0, 0, 0, 0, 0, 0, 0, 0, 1, 0, 0, 0, 0, 0, 0, 0, 1, 0, 0, 0, 1, 0})
}

// P18.2, P18.3: each number at its edges.
func TestResultNumbers(t *testing.T) {
	for n := range api.MaxInvariants {
		askResult(t, api.Result{Invariant: n}, []byte{'R', 0, byte(n), 10: 0})
	}
	for n := range api.MaxPlan {
		askResult(t, api.Result{Node: n}, []byte{'R', 0, 0, 0, 0, byte(n >> 8), byte(n), 10: 0})
	}
	askResult(t, api.Result{Invariant: 63, Node: 16383}, []byte{'R', 0, 63, 0, 0, 63, 255, 10: 0})
	for shift := range 64 {
		for _, n := range []uint64{1 << shift, 1<<shift - 1, ^(uint64(1) << shift), 0xa5 << shift} {
			r := api.Result{Vector: api.Vector{{Device: 0, Version: n}, {Device: 255, Version: ^n}}}
			askResult(t, r, modelResult(r))
			r.Shares = []api.Share{{Counts: api.Counts(max(n, 1)), Dump: []byte{9}}}
			askResult(t, r, modelResult(r))
		}
	}
}

// P18.2, P18.3: Vectors from none up to all devices.
func TestVectors(t *testing.T) {
	for many := range api.MaxDevices + 1 {
		var first, last api.Vector
		for i := range many {
			first = append(first, api.Stamp{Device: i, Version: uint64(i) * 3})
			last = append(last, api.Stamp{Device: api.MaxDevices - many + i, Version: uint64(i)})
		}
		for _, v := range []api.Vector{first, last} {
			r := api.Result{Vector: v, Shares: []api.Share{{Counts: 1, Dump: []byte{2}}}}
			askResult(t, r, modelResult(r))
			same(t, "the bytes", len(modelResult(r)), 9+10*many+2+12+1)
		}
	}
}

// P18.2, P18.3: from no Share up to the most; alike ones, too, in any order.
func TestShares(t *testing.T) {
	for _, many := range []int{0, 1, 2, 3, 254, 255, 256} {
		r := api.Result{Node: 5}
		for i := range many {
			r.Shares = append(r.Shares, api.Share{Counts: api.Counts(1 + (i*37)%11), Dump: filled(1 + i%5)})
		}
		askResult(t, r, modelResult(r))
	}
}

// P18.2, P18.3: Dumps of one byte, and long ones.
func TestDumps(t *testing.T) {
	for _, n := range []int{1, 2, 255, 256, 257, 65535, 65536, 1<<20 - 100} {
		r := api.Result{Shares: []api.Share{{Counts: 2, Dump: filled(n)}}}
		askResult(t, r, modelResult(r))
		r.Shares = append(r.Shares, api.Share{Counts: 1, Dump: []byte{byte(n)}})
		askResult(t, r, modelResult(r))
	}
}

// P18.2, P18.3: as many bytes as may be, and one more.
func TestMostBytes(t *testing.T) {
	for _, shares := range []int{1, 2, 7, 256} {
		r := hasBytes(api.MaxResult, shares)
		b := modelResult(r)
		same(t, "the bytes", len(b), 1048576)
		askResult(t, r, b)
		r = hasBytes(api.MaxResult+1, shares)
		same(t, "the bytes", len(modelResult(r)), 1048577)
		askRefused(t, r, api.ErrLong)
		askFault(t, modelResult(r), 0, api.ErrLong)
	}
	// The stamps count too.
	r := hasBytes(api.MaxResult, 1)
	r.Vector = append(r.Vector, api.Stamp{Device: 4})
	askRefused(t, r, api.ErrLong)
	r.Shares[0].Dump = r.Shares[0].Dump[10:]
	askResult(t, r, modelResult(r))
}

// P18.4: any one field.
func TestSameFieldByField(t *testing.T) {
	askSame(t, good(), good(), true)
	for i, change := range []func(r *api.Result){
		func(r *api.Result) { r.Invariant++ },
		func(r *api.Result) { r.Invariant = -1 },
		func(r *api.Result) { r.Invariant += 1 << 16 },
		func(r *api.Result) { r.Node++ },
		func(r *api.Result) { r.Node = 0 },
		func(r *api.Result) { r.Node += 1 << 32 },
		func(r *api.Result) { r.Vector = nil },
		func(r *api.Result) { r.Vector = r.Vector[:2] },
		func(r *api.Result) { r.Vector = r.Vector[1:] },
		func(r *api.Result) { r.Vector = append(r.Vector, api.Stamp{}) },
		func(r *api.Result) { r.Vector[0].Device = 3 },
		func(r *api.Result) { r.Vector[2].Device += 1 << 16 },
		func(r *api.Result) { r.Vector[1].Version++ },
		func(r *api.Result) { r.Vector[2].Version = 1 << 63 },
		func(r *api.Result) { r.Vector[0], r.Vector[1] = r.Vector[1], r.Vector[0] },
		func(r *api.Result) { r.Shares = nil },
		func(r *api.Result) { r.Shares = r.Shares[:1] },
		func(r *api.Result) { r.Shares = r.Shares[1:] },
		func(r *api.Result) { r.Shares = append(r.Shares, api.Share{}) },
		func(r *api.Result) { r.Shares[0].Counts = 2 },
		func(r *api.Result) { r.Shares[1].Counts = 0 },
		func(r *api.Result) { r.Shares[0].Dump[2] = 4 },
		func(r *api.Result) { r.Shares[0].Dump[0] ^= 128 },
		func(r *api.Result) { r.Shares[1].Dump = nil },
		func(r *api.Result) { r.Shares[0].Dump = r.Shares[0].Dump[:2] },
		func(r *api.Result) { r.Shares[0].Dump = append(r.Shares[0].Dump, 0) },
		func(r *api.Result) { r.Shares[0], r.Shares[1] = r.Shares[1], r.Shares[0] },
	} {
		r := good()
		change(&r)
		if codec.Same(r, good()) || codec.Same(good(), r) {
			t.Errorf("the change %d is not seen", i)
		}
		askSame(t, r, copyOf(r), true)
	}
}

// P18.4: nil and empty are alike; results that may not be are asked as any.
func TestSameOfAny(t *testing.T) {
	askSame(t, api.Result{}, api.Result{Vector: api.Vector{}, Shares: []api.Share{}}, true)
	askSame(t, api.Result{Shares: []api.Share{{}}}, api.Result{Shares: []api.Share{{Dump: []byte{}}}}, true)
	askSame(t, api.Result{Shares: []api.Share{{}}}, api.Result{}, false)
	askSame(t, api.Result{Vector: api.Vector{{}}}, api.Result{}, false)
	long := api.Result{Invariant: -1, Node: math.MinInt, Vector: make(api.Vector, 300), Shares: make([]api.Share, 300)}
	askSame(t, long, copyOf(long), true)
	other := copyOf(long)
	other.Shares[299].Counts = 1
	askSame(t, long, other, false)
	other = copyOf(long)
	other.Vector[299].Device = -1
	askSame(t, long, other, false)
}
