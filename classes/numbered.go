package classes

import (
	"math/bits"
	"slices"

	"milestone/api"
	"milestone/bdd"
)

// numbered finds the classes of a partition that a set meets without asking each of them. It holds, of each bit of a class's number, from the lowest on, the headers of all classes that have it.
type numbered struct {
	*sheet
	count int
}

// newNumbered numbers a table's classes. If the sheet has no room for that, nothing is held.
func newNumbered(s *sheet, t *bdd.Table, l []api.Class) *numbered {
	n := &numbered{s, len(l)}
	n.held = make([]api.Ref, bits.Len(uint(len(l)-1)))
	e := attempt(func() {
		for i, c := range l {
			n.do(func() { n.add(i, carry(t, n.Table, c.Where)) })
		}
	})
	if e != api.OK {
		n.held = nil
	}
	return n
}

func (n *numbered) add(number int, where api.Ref) {
	l := slices.Clone(n.held)
	for bit := range l {
		if number>>bit&1 == 1 {
			l[bit] = must(n.Or(l[bit], where))
		}
	}
	n.held = l
}

// meets are the numbers of the classes that a set of the table meets, rising. Without room to tell them apart they are all numbers.
func (n *numbered) meets(t *bdd.Table, where api.Ref) []int {
	var l []int
	e := attempt(func() {
		n.do(func() { l = n.split(carry(t, n.Table, where), len(n.held), 0, nil) })
	})
	if e == api.OK && len(n.held) > 0 {
		return l
	}
	l = make([]int, n.count)
	for i := range l {
		l[i] = i
	}
	return l
}

// split adds the numbers of a set's headers, of which all bits but the lowest ones are known.
func (n *numbered) split(where api.Ref, lowest, known int, l []int) []int {
	if where == no {
		return l
	}
	if lowest == 0 {
		return append(l, known)
	}
	next := n.held[lowest-1]
	l = n.split(must(n.Diff(where, next)), lowest-1, 2*known, l)
	return n.split(must(n.And(where, next)), lowest-1, 2*known+1, l)
}
