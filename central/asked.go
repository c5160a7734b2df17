package central

import (
	"milestone/api"
	"milestone/fib"
	"milestone/topo"
)

// asked is what all calls ask: a network, the rules of its devices, and a header.
type asked struct {
	api.Topo
	fibs    [][]api.Rule
	header  string
	deeds   []deed    // of each device
	refusal api.Errno // for what it gave up
}

// deed is what a device does with the header; of each port to which it sends it the device at the other end, or nobody.
type deed struct {
	kind  api.ActionKind
	peers []int
}

// nobody is no device's number.
const nobody = -1

// answer does what may be refused, and tells the refusal.
func (a *asked) answer(do func()) (e api.Errno) {
	defer func() {
		if recover() != nil {
			e = a.refusal
		}
	}()
	do()
	return api.OK
}

// refuse gives up, but for OK.
func (a *asked) refuse(e api.Errno) {
	if e != api.OK {
		a.refusal = e
		panic(e)
	}
}

// must gives up where something does not hold.
func (a *asked) must(holds bool, e api.Errno) {
	if !holds {
		a.refuse(e)
	}
}

// look finds out what each device does with the header.
func (a *asked) look() {
	a.refuse(topo.Check(a.Topo))
	a.must(len(a.fibs) == len(a.Devices), api.ErrFibs)
	var noHeader api.Errno
	for device, row := range a.fibs {
		// A header that is none is told behind all rows that may not be; to each table it is the same.
		action, e := a.table(row).Lookup(a.header)
		noHeader = e
		a.deeds = append(a.deeds, deed{action.Kind, a.peers(device, action.Ports)})
	}
	a.refuse(noHeader)
}

// table takes all rules of a row.
func (a *asked) table(row []api.Rule) *fib.Table {
	changes := make([]api.Change, len(row))
	for i, r := range row {
		changes[i] = api.Change{Kind: api.Insert, Rule: r}
	}
	table, e := fib.New(a.Width)
	a.refuse(e)
	_, e = table.Do(changes...)
	a.refuse(e)
	return table
}

// peers are the devices at the other ends of ports, one for each.
func (a *asked) peers(device int, ports []string) []int {
	l := make([]int, len(ports))
	for i, port := range ports {
		peer, _, linked := topo.Peer(a.Topo, device, port)
		if !linked {
			peer = nobody
		}
		l[i] = peer
	}
	return l
}
