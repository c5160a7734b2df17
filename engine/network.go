package engine

import (
	"milestone/api"
	"milestone/classes"
	"milestone/plan"
)

// network is a topology, and a plan over it.
type network struct {
	api.Topo
	api.Plan
}

// nobody is no device's number; it stands ahead of all of them.
const nobody = -1

// mayBe refuses a plan that may not be over its topology, and a topology of other headers.
func (w network) mayBe(bits int) {
	refuse(plan.Check(w.Topo, w.Plan))
	must(w.Width == bits, api.ErrWidth)
}

// peers are the devices at the other ends of a device's ports that have a link.
func (w network) peers(device int) map[string]int {
	l := map[string]int{}
	for _, x := range w.Links {
		if x.A == device {
			l[x.PortA] = x.B
		}
		if x.B == device {
			l[x.PortB] = x.A
		}
	}
	return l
}

func (w network) place(c *counting, n int, results [][]part) *place {
	p := &place{c, w.Nodes[n].Accept, map[int][]part{}}
	for i, k := range w.Nodes[n].Kids {
		p.kids[w.Nodes[k].Device] = results[i]
	}
	return p
}

// node is the result of a place by its Kids'.
func (c *counting) node(w network, n int, row []api.Class, kids [][]api.Entry) []part {
	w.mayBe(c.Bits())
	must(0 <= n && n < len(w.Nodes), api.ErrRange)
	refuse(classes.Check(c.table, row))
	must(len(kids) == len(w.Nodes[n].Kids), api.ErrKids)
	var results [][]part
	for _, l := range kids {
		results = append(results, c.read(l))
	}
	return w.place(c, n, results).result(c.deeds(row, w.peers(w.Nodes[n].Device)))
}

// whole are the results of all places, from the last one on, since the Kids of a place are behind it.
func (c *counting) whole(w network, rows [][]api.Class) [][]part {
	w.mayBe(c.Bits())
	must(len(rows) == len(w.Devices), api.ErrFibs)
	for _, row := range rows {
		refuse(classes.Check(c.table, row))
	}
	deeds := map[int][]deed{}
	for _, n := range w.Nodes {
		if _, known := deeds[n.Device]; !known {
			deeds[n.Device] = c.deeds(rows[n.Device], w.peers(n.Device))
		}
	}
	results := make([][]part, len(w.Nodes))
	for n := len(w.Nodes) - 1; n >= 0; n-- {
		var kids [][]part
		for _, k := range w.Nodes[n].Kids {
			kids = append(kids, results[k])
		}
		results[n] = w.place(c, n, kids).result(deeds[w.Nodes[n].Device])
	}
	return results
}
