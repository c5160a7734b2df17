package codec_test

import (
	"bytes"
	"encoding/binary"

	"milestone/api"
)

// The model writes and reads by the document's words, field by field, with the library's means.

type modelHead struct {
	Letter, Kind byte
	From, To     uint32
	Seq, Ack     uint64
	Length       uint32
}

type modelStart struct {
	Letter    byte
	Invariant uint16
	Node      uint32
}

type modelStamp struct {
	Device  uint16
	Version uint64
}

func written(l ...any) []byte {
	var b bytes.Buffer
	for _, x := range l {
		if e := binary.Write(&b, binary.BigEndian, x); e != nil {
			panic(e)
		}
	}
	return b.Bytes()
}

func modelFrame(f api.Frame) []byte {
	return written(modelHead{'F', byte(f.Kind), f.From, f.To, f.Seq, f.Ack, uint32(len(f.Body))}, f.Body)
}

func modelResult(r api.Result) []byte {
	l := []any{modelStart{'R', uint16(r.Invariant), uint32(r.Node)}, uint16(len(r.Vector))}
	for _, s := range r.Vector {
		l = append(l, modelStamp{uint16(s.Device), s.Version})
	}
	l = append(l, uint16(len(r.Shares)))
	for _, s := range r.Shares {
		l = append(l, uint64(s.Counts), uint32(len(s.Dump)), s.Dump)
	}
	return written(l...)
}

// modelReadFrame is the frame of bytes, or the place at which they are none.
func modelReadFrame(b []byte) (f api.Frame, at int, ok bool) {
	if len(b) == 0 || b[0] != 'F' {
		return f, 0, false
	}
	var head modelHead
	if binary.Read(bytes.NewReader(b), binary.BigEndian, &head) != nil {
		return f, len(b), false
	}
	end := 30 + int(head.Length)
	switch {
	case head.Length > 65536:
		return f, 26, false
	case end > len(b):
		return f, len(b), false
	case end < len(b):
		return f, end, false
	}
	return api.Frame{Kind: api.FrameKind(head.Kind), From: head.From, To: head.To, Seq: head.Seq, Ack: head.Ack, Body: b[30:]}, 0, true
}

// modelReader goes on through bytes as long as all fields are there, and may be.
type modelReader struct {
	b   []byte
	at  int // where the first field begins that is not, or what is behind the last one
	bad bool
}

// take reads the next field, and asks of it whether it may be.
func (m *modelReader) take(field any, may func() bool) bool {
	if m.bad {
		return false
	}
	m.bad = binary.Read(bytes.NewReader(m.b[m.at:]), binary.BigEndian, field) != nil || !may()
	if !m.bad {
		m.at += binary.Size(field)
	}
	return !m.bad
}

// modelReadResult is the result of bytes, or the place at which they are none.
func modelReadResult(b []byte) (r api.Result, at int, ok bool) {
	m := &modelReader{b: b}
	var letter byte
	var invariant, stamps, shares uint16
	var node uint32
	m.take(&letter, func() bool { return letter == 'R' })
	m.take(&invariant, func() bool { return invariant <= 63 })
	m.take(&node, func() bool { return node <= 16383 })
	m.take(&stamps, func() bool { return stamps <= 256 })
	last := -1
	for i := 0; i < int(stamps) && !m.bad; i++ {
		var s modelStamp
		if m.take(&s, func() bool { return s.Device <= 255 && int(s.Device) > last }) {
			last = int(s.Device)
			r.Vector = append(r.Vector, api.Stamp{Device: last, Version: s.Version})
		}
	}
	m.take(&shares, func() bool { return shares <= 256 })
	for i := 0; i < int(shares) && !m.bad; i++ {
		var counts uint64
		var length uint32
		m.take(&counts, func() bool { return counts != 0 })
		if m.take(&length, func() bool { return length > 0 && int(length) <= len(b)-m.at-4 }) {
			end := m.at + int(length)
			r.Shares = append(r.Shares, api.Share{Counts: api.Counts(counts), Dump: b[m.at:end]})
			m.at = end
		}
	}
	if m.bad || m.at < len(b) {
		return api.Result{}, m.at, false
	}
	r.Invariant, r.Node = int(invariant), int(node)
	return r, 0, true
}

// modelMay tells whether a result may be.
func modelMay(r api.Result) bool {
	if r.Invariant < 0 || r.Invariant > 63 || r.Node < 0 || r.Node > 16383 || len(r.Shares) > 256 {
		return false
	}
	last := -1
	for _, s := range r.Vector {
		if s.Device <= last || s.Device > 255 {
			return false
		}
		last = s.Device
	}
	for _, s := range r.Shares {
		if s.Counts == 0 || len(s.Dump) == 0 {
			return false
		}
	}
	return len(modelResult(r)) <= 1<<20
}
