package dump

import (
	"milestone/api"
	"milestone/bdd"
)

// How many bytes the parts have.
const (
	bitsBytes   = 1 // a number of bits, and the number of one
	numberBytes = 4 // a number of nodes, and a node's
	endBytes    = 1
	headBytes   = bitsBytes + numberBytes
	nodeBytes   = bitsBytes + 2*numberBytes
)

// size is how many bytes a function of so many nodes has.
func size(nodes int) int {
	if nodes == 0 {
		return headBytes + endBytes
	}
	return headBytes + nodeBytes*nodes
}

// put is bytes with a number behind them.
func put(b []byte, n int) []byte {
	return append(b, byte(n>>24), byte(n>>16), byte(n>>8), byte(n))
}

// left is the bytes that are not read yet.
type left []byte

// has tells whether so many are left.
func (l left) has(bytes int) bool { return len(l) >= bytes }

// number is what the next bytes say, which must be there.
func (l *left) number(bytes int) uint32 {
	n := uint32(0)
	for _, b := range (*l)[:bytes] {
		n = n<<8 | uint32(b)
	}
	*l = (*l)[bytes:]
	return n
}

// reader reads a function's bytes. At the first fault it takes down the place, and panics.
type reader struct {
	left
	fault int
}

// read is the function of bytes in a table that a call made.
func read(t *bdd.Table, b []byte) (a api.Ref, fault int, e api.Errno) {
	r := reader{left: b}
	defer func() {
		if recover() != nil {
			a, fault, e = 0, r.fault, api.ErrDump
		}
	}()
	n := r.head(t.Bits())
	if n == 0 {
		return r.end(), 0, api.OK
	}
	a, at, e := t.Make(r.nodes(n))
	r.must(e != api.ErrList, headBytes+nodeBytes*at)
	return a, 0, e
}

// must gives up where something does not hold.
func (r *reader) must(holds bool, place int) {
	if !holds {
		r.fault = place
		panic(api.ErrDump)
	}
}

// head is how many nodes there are.
func (r *reader) head(bits int) int {
	r.must(r.has(bitsBytes) && int(r.number(bitsBytes)) == bits, 0)
	r.must(r.has(numberBytes), bitsBytes)
	n := r.number(numberBytes)
	r.must(n <= api.MaxNodes, bitsBytes)
	return int(n)
}

// end is the end's ref, with nothing behind it.
func (r *reader) end() api.Ref {
	r.must(r.has(endBytes), headBytes)
	a := r.number(endBytes)
	r.must(a <= 1, headBytes)
	r.must(len(r.left) == 0, headBytes+endBytes)
	return api.Ref(a)
}

// nodes are so many, with nothing behind them.
func (r *reader) nodes(n int) []api.Node {
	r.must(r.has(nodeBytes*n), headBytes+len(r.left))
	r.must(len(r.left) == nodeBytes*n, headBytes+nodeBytes*n)
	l := make([]api.Node, n)
	for i := range l {
		l[i].Bit = int(r.number(bitsBytes))
		l[i].Low = int(r.number(numberBytes))
		l[i].High = int(r.number(numberBytes))
	}
	return l
}
