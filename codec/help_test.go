package codec_test

import (
	"bytes"
	"fmt"
	"math/rand"
	"slices"
	"testing"

	"milestone/api"
	"milestone/codec"
)

func same(t *testing.T, what string, got, want any) {
	t.Helper()
	if got != want {
		t.Errorf("%s = %v, want %v", what, got, want)
	}
}

// brief is a text of at most the first parts of a list, and of how many there are.
func brief[T any](l []T) string {
	return fmt.Sprintf("%v of %d", l[:min(len(l), 80)], len(l))
}

func saidFrame(f api.Frame) string {
	body := brief(f.Body)
	f.Body = nil
	return fmt.Sprintf("%v with %s", f, body)
}

func saidResult(r api.Result) string {
	var shares []string
	for _, s := range r.Shares[:min(len(r.Shares), 5)] {
		shares = append(shares, fmt.Sprint(s.Counts, ": ", brief(s.Dump)))
	}
	return fmt.Sprintf("{%d %d %s, %v of %d}", r.Invariant, r.Node, brief(r.Vector), shares, len(r.Shares))
}

// row is the bytes of several rows, one behind the other.
func row(l ...[]byte) []byte { return slices.Concat(l...) }

// filled is a row of bytes that are unlike their neighbours.
func filled(n int) []byte {
	b := make([]byte, n)
	for i := range b {
		b[i] = byte(i*7 + i/256 + 1)
	}
	return b
}

// good is a result with all fields.
func good() api.Result {
	return api.Result{
		Invariant: 9,
		Node:      300,
		Vector:    api.Vector{{Device: 2, Version: 5}, {Device: 7, Version: 1 << 40}, {Device: 255}},
		Shares:    []api.Share{{Counts: 3, Dump: []byte{1, 2, 3}}, {Counts: 1 << 63, Dump: []byte{4}}},
	}
}

// hasBytes is a result of just so many bytes, with so many Shares.
func hasBytes(n, shares int) api.Result {
	r := api.Result{Invariant: 1, Vector: api.Vector{{Device: 3, Version: 4}}}
	left := n - 9 - 10 - 2 - 12*shares
	for i := range shares {
		part := left / (shares - i)
		left -= part
		r.Shares = append(r.Shares, api.Share{Counts: api.Counts(i + 1), Dump: filled(part)})
	}
	return r
}

// framesAlike tells whether two frames are the same, a Body nil or empty.
func framesAlike(a, b api.Frame) bool {
	return a.Kind == b.Kind && a.From == b.From && a.To == b.To && a.Seq == b.Seq && a.Ack == b.Ack && bytes.Equal(a.Body, b.Body)
}

// resultsAlike tells whether two results are the same, lists nil or empty.
func resultsAlike(a, b api.Result) bool {
	if a.Invariant != b.Invariant || a.Node != b.Node || len(a.Vector) != len(b.Vector) || len(a.Shares) != len(b.Shares) {
		return false
	}
	for i, s := range a.Vector {
		if s.Device != b.Vector[i].Device || s.Version != b.Vector[i].Version {
			return false
		}
	}
	for i, s := range a.Shares {
		if s.Counts != b.Shares[i].Counts || string(s.Dump) != string(b.Shares[i].Dump) {
			return false
		}
	}
	return true
}

func frameIsZero(f api.Frame) bool { return f.Body == nil && framesAlike(f, api.Frame{}) }

func resultIsZero(r api.Result) bool {
	return r.Vector == nil && r.Shares == nil && resultsAlike(r, api.Result{})
}

// askFrame asks for a frame's bytes, and for the frame of these.
func askFrame(t *testing.T, f api.Frame, want []byte) {
	t.Helper()
	if b, e := codec.Frame(f); !bytes.Equal(b, want) || e != api.OK {
		t.Errorf("Frame(%s) = %s, %v, want %s", saidFrame(f), brief(b), e, brief(want))
	}
	if got, at, e := codec.ReadFrame(want); !framesAlike(got, f) || at != 0 || e != api.OK {
		t.Errorf("ReadFrame(%s) = %s, %d, %v, want %s", brief(want), saidFrame(got), at, e, saidFrame(f))
	}
}

// askNoFrame asks for the place of a fault.
func askNoFrame(t *testing.T, b []byte, want int) {
	t.Helper()
	if f, at, e := codec.ReadFrame(b); !frameIsZero(f) || at != want || e != api.ErrCodec {
		t.Errorf("ReadFrame(%s) = %s, %d, %v, want ErrCodec at %d", brief(b), saidFrame(f), at, e, want)
	}
}

// askResult asks for a result's bytes, and for the result of these.
func askResult(t *testing.T, r api.Result, want []byte) {
	t.Helper()
	same(t, "Check's error", codec.Check(r), api.OK)
	if b, e := codec.Result(r); !bytes.Equal(b, want) || e != api.OK {
		t.Errorf("Result(%s) = %s, %v, want %s", saidResult(r), brief(b), e, brief(want))
	}
	if got, at, e := codec.ReadResult(want); !resultsAlike(got, r) || at != 0 || e != api.OK {
		t.Errorf("ReadResult(%s) = %s, %d, %v, want %s", brief(want), saidResult(got), at, e, saidResult(r))
	}
}

// askRefused asks for a result's error.
func askRefused(t *testing.T, r api.Result, want api.Errno) {
	t.Helper()
	same(t, "Check's error", codec.Check(r), want)
	if b, e := codec.Result(r); b != nil || e != want {
		t.Errorf("Result(%s) = %s, %v, want %v", saidResult(r), brief(b), e, want)
	}
}

// askNoResult asks for the place of a fault.
func askNoResult(t *testing.T, b []byte, want int) {
	t.Helper()
	askFault(t, b, want, api.ErrCodec)
}

func askFault(t *testing.T, b []byte, want int, no api.Errno) {
	t.Helper()
	if r, at, e := codec.ReadResult(b); !resultIsZero(r) || at != want || e != no {
		t.Errorf("ReadResult(%s) = %s, %d, %v, want %v at %d", brief(b), saidResult(r), at, e, no, want)
	}
}

// askSame asks whether two results are alike, in either order.
func askSame(t *testing.T, a, b api.Result, want bool) {
	t.Helper()
	if codec.Same(a, b) != want || codec.Same(b, a) != want {
		t.Errorf("Same(%s, %s) = %v, the other way round %v, want %v", saidResult(a), saidResult(b), codec.Same(a, b), codec.Same(b, a), want)
	}
}

// copyOf shares nothing with a result.
func copyOf(r api.Result) api.Result {
	r.Vector = slices.Clone(r.Vector)
	r.Shares = slices.Clone(r.Shares)
	for i, s := range r.Shares {
		r.Shares[i].Dump = bytes.Clone(s.Dump)
	}
	return r
}

// someNumber is a small one, a great one, or any.
func someNumber(r *rand.Rand) uint64 {
	switch r.Intn(4) {
	case 0:
		return r.Uint64()
	case 1:
		return ^uint64(0) - uint64(r.Intn(3))
	case 2:
		return 1 << r.Intn(64)
	}
	return uint64(r.Intn(3))
}

func someBytes(r *rand.Rand, n int) []byte {
	b := make([]byte, n)
	r.Read(b)
	return b
}

func someFrame(r *rand.Rand) api.Frame {
	return api.Frame{
		Kind: api.FrameKind(someNumber(r)),
		From: uint32(someNumber(r)),
		To:   uint32(someNumber(r)),
		Seq:  someNumber(r),
		Ack:  someNumber(r),
		Body: someBytes(r, r.Intn(1+[]int{1, 9, 300}[r.Intn(3)])),
	}
}

// someResult is one that may be.
func someResult(r *rand.Rand) api.Result {
	x := api.Result{Invariant: r.Intn(api.MaxInvariants), Node: r.Intn(api.MaxPlan)}
	if r.Intn(3) == 0 {
		x.Node = r.Intn(300)
	}
	for device := range api.MaxDevices {
		if near := device < 3 || device > 253; near && r.Intn(2) == 0 || r.Intn(100) == 1 {
			x.Vector = append(x.Vector, api.Stamp{Device: device, Version: someNumber(r)})
		}
	}
	for range r.Intn(4) {
		x.Shares = append(x.Shares, api.Share{Counts: api.Counts(max(1, someNumber(r))), Dump: someBytes(r, 1+r.Intn(5))})
	}
	return x
}

// pick is one of several.
func pick[T any](r *rand.Rand, l ...T) T { return l[r.Intn(len(l))] }

// spoiled is bytes in which a few things are turned, put in, cut out, or brought from elsewhere.
func spoiled(r *rand.Rand, b []byte) []byte {
	b = bytes.Clone(b)
	for range r.Intn(3) {
		at := r.Intn(len(b) + 1)
		switch {
		case at == len(b) || r.Intn(6) == 0:
			b = slices.Insert(b, at, pick(r, 0, 0, 1, byte(r.Intn(256))))
		case r.Intn(6) == 0:
			b = slices.Delete(b, at, min(len(b), at+1+r.Intn(3)))
		case r.Intn(6) == 0:
			b = b[:at]
		case r.Intn(3) == 0:
			b[at] = pick(r, 0, 1, 2, 63, 64, 255, b[r.Intn(len(b))])
		default:
			b[at] ^= 1 << r.Intn(8)
		}
	}
	return b
}

// someTimes asks of things that hang on nothing but the seed.
func someTimes(many int, do func(r *rand.Rand)) {
	r := rand.New(rand.NewSource(18))
	for range many {
		do(r)
	}
}
