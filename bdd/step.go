package bdd

import "milestone/api"

// step is one function on its way. Each node that it comes upon is one of that function's own, so that it may give up at the first one for which there is no room.
type step struct {
	*nodes
	room  int            // how many nodes there may be
	known map[[3]int]int // what came of three nodes
}

// step begins one.
func (d *nodes) step(room int) *step {
	return &step{nodes: d, room: room, known: map[[3]int]int{}}
}

// node is the number of a node, a new one if it is not there yet.
func (s *step) node(bit, low, high int) int {
	if low == high {
		return low
	}
	n := api.Node{Bit: bit, Low: low, High: high}
	if at, ok := s.at[n]; ok {
		return at
	}
	if len(s.list) >= s.room {
		panic(api.ErrFull)
	}
	s.put([]api.Node{n})
	return s.at[n]
}

// cube is the node of a text, made from its last letter on.
func (s *step) cube(text string) int {
	n := yes
	for i := len(text) - 1; i >= 0; i-- {
		switch text[i] {
		case '0':
			n = s.node(i, n, no)
		case '1':
			n = s.node(i, no, n)
		}
	}
	return n
}

// ite: the second of three nodes where the first one holds, else the third.
func (s *step) ite(k [3]int) int {
	a, b, c := k[0], k[1], k[2]
	switch {
	case a == yes || b == c:
		return b
	case a == no:
		return c
	case b == yes && c == no:
		return a
	}
	if n, ok := s.known[k]; ok {
		return n
	}
	bit := min(s.bit(a), s.bit(b), s.bit(c))
	var low, high [3]int
	for i, n := range k {
		low[i], high[i] = s.halves(n, bit)
	}
	n := s.node(bit, s.ite(low), s.ite(high))
	s.known[k] = n
	return n
}

// build is the node of a list that was checked.
func (s *step) build(l []api.Node) int {
	numbers := make([]int, firstNode, len(l)+firstNode)
	numbers[yes] = yes
	for _, n := range l {
		numbers = append(numbers, s.node(n.Bit, numbers[n.Low], numbers[n.High]))
	}
	if len(l) == 0 {
		return no
	}
	return numbers[len(numbers)-1]
}
