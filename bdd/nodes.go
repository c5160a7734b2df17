package bdd

import "milestone/api"

// The numbers of the ends, and of the first node of a list.
const (
	no        = 0
	yes       = 1
	firstNode = 2
)

// spare is how many nodes that nobody may need a fold lets stand.
const spare = 1 << 12

// nodes are diagrams that share what is alike: node i of the list has the number i + 2, and those that it leads to have lesser ones.
type nodes struct {
	list []api.Node
	at   map[api.Node]int
}

// put adds nodes that are not there yet.
func (d *nodes) put(l []api.Node) {
	if d.at == nil {
		d.at = make(map[api.Node]int, len(l))
	}
	for _, n := range l {
		d.at[n] = len(d.list) + firstNode
		d.list = append(d.list, n)
	}
}

// drop takes all away but the first ones.
func (d *nodes) drop(mark int) {
	for _, n := range d.list[mark:] {
		delete(d.at, n)
	}
	d.list = d.list[:mark]
}

// shrink takes away, behind the first ones, what a node does not need, and tells that node's new number.
func (d *nodes) shrink(mark, n int) int {
	needed := orderOf(d.list, mark+firstNode, n)
	l := needed.nodes()
	d.drop(mark)
	d.put(l)
	return needed.name(n)
}

// bit is the one on which a node hangs first; of an end, one behind all others.
func (d *nodes) bit(n int) int {
	if n < firstNode {
		return api.MaxBits
	}
	return d.list[n-firstNode].Bit
}

// halves are what is left of a node, where a bit that is not behind its own is 0, and 1.
func (d *nodes) halves(n, bit int) (low, high int) {
	if d.bit(n) != bit {
		return n, n
	}
	at := d.list[n-firstNode]
	return at.Low, at.High
}

// holds tells whether a header leads to yes.
func (d *nodes) holds(n int, header string) bool {
	for n >= firstNode {
		at := d.list[n-firstNode]
		n = at.Low
		if header[at.Bit] == '1' {
			n = at.High
		}
	}
	return n == yes
}

// lowest writes over free letters the way to yes that goes by Low where it can.
func (d *nodes) lowest(n int, letters []byte) string {
	for n >= firstNode {
		at := d.list[n-firstNode]
		letters[at.Bit], n = '0', at.Low
		if n == no {
			letters[at.Bit], n = '1', at.High
		}
	}
	return string(letters)
}

// ways is how many ways lead to yes; enough, if there are as many or more.
func (d *nodes) ways(n int, enough uint64, known map[int]uint64) uint64 {
	if n < firstNode {
		return uint64(n)
	}
	if w, ok := known[n]; ok {
		return w
	}
	at := d.list[n-firstNode]
	low, high := d.ways(at.Low, enough, known), d.ways(at.High, enough, known)
	w := enough
	// Not by their sum, which may be above the greatest number.
	if low < enough-high {
		w = low + high
	}
	known[n] = w
	return w
}

// cubes writes each way to yes over free letters, those by Low first.
func (d *nodes) cubes(n int, letters []byte, out []string) []string {
	switch n {
	case no:
		return out
	case yes:
		return append(out, string(letters))
	}
	at := d.list[n-firstNode]
	letters[at.Bit] = '0'
	out = d.cubes(at.Low, letters, out)
	letters[at.Bit] = '1'
	out = d.cubes(at.High, letters, out)
	letters[at.Bit] = 'x'
	return out
}
