package codec

import (
	"math"

	"milestone/api"
)

// left is the bytes that are not read yet.
type left []byte

// has tells whether so many are left.
func (l left) has(bytes int) bool { return len(l) >= bytes }

// cut takes the next bytes, which must be there, and nothing of what stands behind them.
func (l *left) cut(bytes int) []byte {
	field := (*l)[:bytes:bytes]
	*l = (*l)[bytes:]
	return field
}

// number is what the next bytes say, which must be there.
func (l *left) number(bytes int) uint64 {
	n := uint64(0)
	for _, b := range l.cut(bytes) {
		n = n<<8 | uint64(b)
	}
	return n
}

// own is a copy of the next bytes, which must be there: what is told shares nothing with what is read.
func (l *left) own(bytes int) []byte {
	return append([]byte(nil), l.cut(bytes)...)
}

// reader reads bytes. At the first fault it takes down the place, and panics.
type reader struct {
	left
	all   int // how many bytes there were
	fault int
}

// reading is what is read of bytes, or the place of the first fault.
func reading[T any](b []byte, read func(r *reader) T) (told T, fault int, e api.Errno) {
	r := reader{left: b, all: len(b)}
	defer func() {
		if recover() != nil {
			var none T
			told, fault, e = none, r.fault, api.ErrCodec
		}
	}()
	return read(&r), 0, api.OK
}

// at is the place of the next byte.
func (r *reader) at() int { return r.all - len(r.left) }

// must gives up where something does not hold.
func (r *reader) must(holds bool, place int) {
	if !holds {
		r.fault = place
		panic(api.ErrCodec)
	}
}

// within is the number of a field that must be there, and that may be from least to most.
func (r *reader) within(bytes int, least, most uint64) uint64 {
	at := r.at()
	r.must(r.has(bytes), at)
	n := r.number(bytes)
	r.must(least <= n && n <= most, at)
	return n
}

// end is where nothing may be left.
func (r *reader) end() { r.must(len(r.left) == 0, r.at()) }

// frame is the one whose bytes these are.
func (r *reader) frame() api.Frame {
	r.within(letterBytes, frameLetter, frameLetter)
	r.must(r.all >= frameHead, r.all)
	f := api.Frame{
		Kind: api.FrameKind(r.number(kindBytes)),
		From: uint32(r.number(bootBytes)),
		To:   uint32(r.number(bootBytes)),
		Seq:  r.number(seqBytes),
		Ack:  r.number(seqBytes),
	}
	n := int(r.within(lengthBytes, 0, api.MaxBody))
	r.must(r.has(n), r.all)
	f.Body = r.own(n)
	r.end()
	return f
}

// result is the one whose bytes these are.
func (r *reader) result() api.Result {
	r.within(letterBytes, resultLetter, resultLetter)
	x := api.Result{
		Invariant: int(r.within(invariantBytes, 0, api.MaxInvariants-1)),
		Node:      int(r.within(nodeBytes, 0, api.MaxPlan-1)),
		Vector:    r.vector(),
		Shares:    r.shares(),
	}
	r.end()
	return x
}

// vector is the stamps, by rising devices.
func (r *reader) vector() api.Vector {
	var v api.Vector
	least := uint64(0)
	for range r.within(manyBytes, 0, api.MaxDevices) {
		r.must(r.has(stampBytes), r.at())
		device := r.within(deviceBytes, least, api.MaxDevices-1)
		v = append(v, api.Stamp{Device: int(device), Version: r.number(versionBytes)})
		least = device + 1
	}
	return v
}

func (r *reader) shares() []api.Share {
	var l []api.Share
	for range r.within(manyBytes, 0, api.MaxShares) {
		counts := r.within(countsBytes, 1, math.MaxUint64)
		l = append(l, api.Share{Counts: api.Counts(counts), Dump: r.dump()})
	}
	return l
}

// dump is a Share's bytes; a length of more than are left is itself at fault.
func (r *reader) dump() []byte {
	at := r.at()
	n := int(r.within(lengthBytes, 1, api.MaxResult))
	r.must(r.has(n), at)
	return r.own(n)
}
