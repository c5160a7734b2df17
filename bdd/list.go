package bdd

import "milestone/api"

// order is the nodes that some need, in the order of a list: what Low needs, what High needs, the node itself.
type order struct {
	list  []api.Node
	least int         // nodes below this number are left out
	place map[int]int // the new numbers: from least on
}

// orderOf is what some nodes of a list need, those below a number left out.
func orderOf(list []api.Node, least int, l ...int) *order {
	o := &order{list: list, least: least, place: map[int]int{}}
	for _, n := range l {
		o.visit(n)
	}
	return o
}

// visit gives a node and what it needs their numbers.
func (o *order) visit(n int) {
	if n < o.least {
		return
	}
	if _, ok := o.place[n]; ok {
		return
	}
	at := o.list[n-firstNode]
	o.visit(at.Low)
	o.visit(at.High)
	o.place[n] = o.least + len(o.place)
}

// name is the new number of a node: its old one, if it was left out.
func (o *order) name(n int) int {
	if at, ok := o.place[n]; ok {
		return at
	}
	return n
}

// nodes are those that are needed, each at its place.
func (o *order) nodes() []api.Node {
	out := make([]api.Node, len(o.place))
	for n, place := range o.place {
		at := o.list[n-firstNode]
		out[place-o.least] = api.Node{Bit: at.Bit, Low: o.name(at.Low), High: o.name(at.High)}
	}
	return out
}

// check tells whether nodes are a list; if not, which is the first one that may not be there, or how many there are, if each may.
func check(l []api.Node, bits int) (int, bool) {
	there := make(map[api.Node]int, len(l))
	for i, n := range l {
		if _, twice := there[n]; twice || !fits(l, i, bits) {
			return i, false
		}
		there[n] = i
	}
	if !inOrder(l) {
		return len(l), false
	}
	return 0, true
}

// fits tells whether a node may stand at its place, but for those ahead that are the same.
func fits(l []api.Node, i, bits int) bool {
	n := l[i]
	if n.Bit < 0 || n.Bit >= bits || n.Low == n.High {
		return false
	}
	for _, to := range [2]int{n.Low, n.High} {
		if to < 0 || to >= i+firstNode {
			return false
		}
		if to >= firstNode && l[to-firstNode].Bit <= n.Bit {
			return false
		}
	}
	return true
}

// inOrder tells whether nodes are the list of the last one: this comes to a lesser number than its own, where it does not need them all.
func inOrder(l []api.Node) bool {
	last := len(l) - 1 + firstNode
	for n, place := range orderOf(l, firstNode, last).place {
		if n != place {
			return false
		}
	}
	return true
}
