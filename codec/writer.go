package codec

import "milestone/api"

// The first bytes.
const (
	frameLetter  = 'F'
	resultLetter = 'R'
)

// How many bytes the fields have.
const (
	letterBytes    = 1
	kindBytes      = 1
	bootBytes      = 4
	seqBytes       = 8
	lengthBytes    = 4 // how many bytes stand behind
	invariantBytes = 2
	nodeBytes      = 4
	manyBytes      = 2 // how many stamps, or Shares, stand behind
	deviceBytes    = 2
	versionBytes   = 8
	countsBytes    = 8

	frameHead  = letterBytes + kindBytes + 2*bootBytes + 2*seqBytes + lengthBytes
	resultHead = letterBytes + invariantBytes + nodeBytes + manyBytes
	stampBytes = deviceBytes + versionBytes
	shareHead  = countsBytes + lengthBytes
)

// number is one, and how many bytes it has.
type number struct {
	bytes int
	value uint64
}

// put is bytes with numbers behind them, of each the greatest byte first.
func put(b []byte, l ...number) []byte {
	for _, n := range l {
		for i := range n.bytes {
			b = append(b, byte(n.value>>(8*(n.bytes-1-i))))
		}
	}
	return b
}

// frameBytes are those of a frame whose Body is not too long.
func frameBytes(f api.Frame) []byte {
	b := make([]byte, 0, frameHead+len(f.Body))
	b = put(b,
		number{letterBytes, frameLetter},
		number{kindBytes, uint64(f.Kind)},
		number{bootBytes, uint64(f.From)},
		number{bootBytes, uint64(f.To)},
		number{seqBytes, f.Seq},
		number{seqBytes, f.Ack},
		number{lengthBytes, uint64(len(f.Body))})
	return append(b, f.Body...)
}

// resultSize is how many bytes a result has.
func resultSize(r api.Result) int {
	n := resultHead + stampBytes*len(r.Vector) + manyBytes
	for _, s := range r.Shares {
		n += shareHead + len(s.Dump)
	}
	return n
}

// resultBytes are those of a result that may be.
func resultBytes(r api.Result) []byte {
	b := make([]byte, 0, resultSize(r))
	b = put(b,
		number{letterBytes, resultLetter},
		number{invariantBytes, uint64(r.Invariant)},
		number{nodeBytes, uint64(r.Node)},
		number{manyBytes, uint64(len(r.Vector))})
	for _, s := range r.Vector {
		b = put(b, number{deviceBytes, uint64(s.Device)}, number{versionBytes, s.Version})
	}
	b = put(b, number{manyBytes, uint64(len(r.Shares))})
	for _, s := range r.Shares {
		b = put(b, number{countsBytes, uint64(s.Counts)}, number{lengthBytes, uint64(len(s.Dump))})
		b = append(b, s.Dump...)
	}
	return b
}
