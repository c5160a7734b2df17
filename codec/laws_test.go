package codec_test

import (
	"bytes"
	"math/rand"
	"slices"
	"sync"
	"testing"

	"milestone/api"
	"milestone/codec"
)

// P18.5: what is written is read as the same.
func TestThereAndBack(t *testing.T) {
	someTimes(4000, func(r *rand.Rand) {
		f := someFrame(r)
		askFrame(t, f, modelFrame(f))
		x := someResult(r)
		askResult(t, x, modelResult(x))
		b, _ := codec.Result(x)
		got, _, _ := codec.ReadResult(b)
		askSame(t, got, x, true)
	})
}

// P18.1, P18.5: what is read is written as the same bytes; what is not has the place of the document's words.
func TestFramesOfSomeBytes(t *testing.T) {
	read := 0
	someTimes(20000, func(r *rand.Rand) {
		b := spoiled(r, modelFrame(someFrame(r)))
		f, at, ok := modelReadFrame(b)
		if !ok {
			askNoFrame(t, b, at)
			return
		}
		askFrame(t, f, b)
		read++
	})
	if read < 5000 || read > 15000 {
		t.Errorf("%d of them were frames", read)
	}
}

// P18.3, P18.5: the same of results.
func TestResultsOfSomeBytes(t *testing.T) {
	read := 0
	someTimes(20000, func(r *rand.Rand) {
		b := spoiled(r, modelResult(someResult(r)))
		x, at, ok := modelReadResult(b)
		if !ok {
			askNoResult(t, b, at)
			return
		}
		askResult(t, x, b)
		read++
	})
	if read < 5000 || read > 15000 {
		t.Errorf("%d of them were results", read)
	}
}

// P18.1, P18.3: rows of bytes that are small numbers, most of them 0.
func TestShortRows(t *testing.T) {
	someTimes(50000, func(r *rand.Rand) {
		b := make([]byte, r.Intn(40))
		for i := range b {
			b[i] = byte(r.Intn(3) * r.Intn(2) * r.Intn(2))
		}
		if len(b) > 0 {
			b[0] = 'R'
		}
		if x, at, ok := modelReadResult(b); ok {
			askResult(t, x, b)
		} else {
			askNoResult(t, b, at)
		}
		if len(b) > 0 {
			b[0] = 'F'
		}
		if f, at, ok := modelReadFrame(b); ok {
			askFrame(t, f, b)
		} else {
			askNoFrame(t, b, at)
		}
	})
}

// P18.6: no shorter beginning is read, nor with a byte behind.
func TestNoByteMore(t *testing.T) {
	someTimes(300, func(r *rand.Rand) {
		b := modelFrame(someFrame(r))
		for n := range b {
			_, at, _ := modelReadFrame(b[:n])
			askNoFrame(t, b[:n], at)
		}
		askNoFrame(t, append(b, byte(r.Intn(256))), len(b))
		b = modelResult(someResult(r))
		for n := range b {
			_, at, _ := modelReadResult(b[:n])
			askNoResult(t, b[:n], at)
		}
		askNoResult(t, append(b, byte(r.Intn(256))), len(b))
	})
}

// P18.1, P18.3, P18.6: each beginning, with any byte behind.
func TestBeginningsWithAByteBehind(t *testing.T) {
	frame := modelFrame(api.Frame{Kind: 2, From: 1, To: 258, Seq: 3, Ack: 4, Body: []byte("hi")})
	for n := range len(frame) + 1 {
		for more := range 256 {
			b := append(bytes.Clone(frame[:n]), byte(more))
			if f, at, ok := modelReadFrame(b); ok {
				askFrame(t, f, b)
			} else {
				askNoFrame(t, b, at)
			}
		}
	}
	result := modelResult(good())
	for n := range len(result) + 1 {
		for more := range 256 {
			b := append(bytes.Clone(result[:n]), byte(more))
			if x, at, ok := modelReadResult(b); ok {
				askResult(t, x, b)
			} else {
				askNoResult(t, b, at)
			}
		}
	}
}

// P18.2: results of which a few things may not be.
func TestCheckOfSomeResults(t *testing.T) {
	may := 0
	someTimes(5000, func(r *rand.Rand) {
		x := someResult(r)
		switch r.Intn(7) {
		case 0:
			x.Invariant = pick(r, -1, 0, 63, 64)
		case 1:
			x.Node = pick(r, -1, 0, 16383, 16384)
		case 2:
			x.Vector = append(x.Vector, api.Stamp{Device: pick(r, -1, 0, 254, 255, 256)})
		case 3:
			x.Shares = slices.Repeat([]api.Share{{Counts: 1, Dump: []byte{1}}}, pick(r, 255, 256, 257))
		case 4:
			x.Shares = append(x.Shares, api.Share{Counts: api.Counts(r.Intn(2)), Dump: make([]byte, r.Intn(2))})
		case 5:
			x.Shares = append(x.Shares, api.Share{Counts: 1, Dump: make([]byte, 1<<20-r.Intn(400))})
		}
		if modelMay(x) {
			same(t, "Check's error", codec.Check(x), api.OK)
			may++
		} else if codec.Check(x) == api.OK {
			t.Errorf("Check(%s) takes what may not be", saidResult(x))
		}
	})
	if may < 1000 || may > 4000 {
		t.Errorf("%d of them might be", may)
	}
}

// P18.4: of some results, most of which are alike in much.
func TestSameOfSome(t *testing.T) {
	alike := 0
	someTimes(5000, func(r *rand.Rand) {
		a := someResult(r)
		b, _, ok := modelReadResult(spoiled(r, modelResult(a)))
		if !ok {
			b = someResult(r)
		}
		askSame(t, a, b, resultsAlike(a, b))
		if resultsAlike(a, b) {
			alike++
		}
	})
	if alike < 1000 || alike > 4000 {
		t.Errorf("%d of them were alike", alike)
	}
}

// roomy is bytes with room behind, in which others stand.
func roomy(b []byte) []byte {
	long := append(append(make([]byte, 0, len(b)+3), b...), 77, 78, 79)
	return long[:len(b)]
}

// Rule 4: nothing that is handed in is changed, nor what stands behind its end.
func TestNothingChanged(t *testing.T) {
	someTimes(500, func(r *rand.Rand) {
		f := someFrame(r)
		f.Body = roomy(f.Body)
		whole := bytes.Clone(f.Body[:cap(f.Body)])
		codec.Frame(f)
		same(t, "the Body stands", bytes.Equal(f.Body[:cap(f.Body)], whole), true)
		for _, b := range [][]byte{modelFrame(f), modelResult(someResult(r)), spoiled(r, modelFrame(f)), spoiled(r, modelResult(someResult(r)))} {
			b = roomy(b)
			whole := bytes.Clone(b[:cap(b)])
			codec.ReadFrame(b)
			codec.ReadResult(b)
			same(t, "the bytes stand", bytes.Equal(b[:cap(b)], whole), true)
		}
		x := someResult(r)
		x.Vector = append(x.Vector, api.Stamp{Device: -7})[:len(x.Vector)]
		x.Shares = append(x.Shares, api.Share{Counts: 77})[:len(x.Shares)]
		for i := range x.Shares {
			x.Shares[i].Dump = roomy(x.Shares[i].Dump)
		}
		before := copyOf(x)
		codec.Check(x)
		codec.Result(x)
		codec.Same(x, x)
		codec.Same(x, someResult(r))
		same(t, "the result stands", resultsAlike(x, before), true)
		same(t, "what stands behind the Vector", x.Vector[:len(x.Vector)+1][len(x.Vector)].Device, -7)
		same(t, "what stands behind the Shares", int(x.Shares[:len(x.Shares)+1][len(x.Shares)].Counts), 77)
		for _, s := range x.Shares {
			same(t, "what stands behind a Dump", string(s.Dump[:cap(s.Dump)][len(s.Dump):]), "MNO")
		}
	})
}

// wipe writes over bytes, and over the room behind them.
func wipe(b []byte) {
	b = b[:cap(b)]
	for i := range b {
		b[i] = 0xee
	}
}

func wipeResult(r api.Result) {
	for _, s := range r.Shares {
		wipe(s.Dump)
	}
	shares, stamps := r.Shares[:cap(r.Shares)], r.Vector[:cap(r.Vector)]
	for i := range shares {
		shares[i] = api.Share{Counts: 0xee}
	}
	for i := range stamps {
		stamps[i] = api.Stamp{Device: 0xee}
	}
}

// Rule 4: what is told is one's own, whatever becomes of what was handed in, or told beside.
func TestNothingKept(t *testing.T) {
	someTimes(500, func(r *rand.Rand) {
		f := someFrame(r)
		f.Body = roomy(f.Body)
		want := modelFrame(f)
		written, _ := codec.Frame(f)
		wipe(f.Body)
		same(t, "the frame's bytes stand", bytes.Equal(written, want), true)
		read, _, _ := codec.ReadFrame(written)
		again, _, _ := codec.ReadFrame(written)
		wipe(written)
		wipe(again.Body)
		same(t, "the frame stands", bytes.Equal(modelFrame(read), want), true)

		x := someResult(r)
		want = modelResult(x)
		written, _ = codec.Result(x)
		wipeResult(x)
		same(t, "the result's bytes stand", bytes.Equal(written, want), true)
		y, _, _ := codec.ReadResult(written)
		other, _, _ := codec.ReadResult(written)
		wipe(written)
		wipeResult(other)
		same(t, "the result stands", bytes.Equal(modelResult(y), want), true)
		dumps := copyOf(y).Shares
		for i := range y.Shares {
			wipe(y.Shares[i].Dump)
			for j := i + 1; j < len(y.Shares); j++ {
				same(t, "the next Dump stands", bytes.Equal(y.Shares[j].Dump, dumps[j].Dump), true)
			}
		}
	})
}

// Rule 4: nor is what is told behind a fault in the next answer.
func TestNothingLeftOfAFault(t *testing.T) {
	f := api.Frame{Kind: 2, From: 1, To: 2, Seq: 3, Ack: 4, Body: []byte{5}}
	askNoFrame(t, modelFrame(f)[:30], 30)
	askFrame(t, api.Frame{}, []byte{'F', 29: 0})
	askNoResult(t, modelResult(good())[:60], 56)
	askResult(t, api.Result{}, []byte{'R', 10: 0})
}

// Rule 5: the same, however many ask at once.
func TestAskedAtOnce(t *testing.T) {
	frames, results := someFrame(rand.New(rand.NewSource(1))), good()
	wantFrame, wantResult := modelFrame(frames), modelResult(results)
	var all sync.WaitGroup
	for range 8 {
		all.Go(func() {
			for range 200 {
				askFrame(t, frames, wantFrame)
				askResult(t, results, wantResult)
				askNoFrame(t, wantFrame[:29], 29)
				askNoResult(t, wantResult[:60], 56)
			}
		})
	}
	all.Wait()
}
