package engine_test

import (
	"slices"
	"testing"

	"milestone/api"
	"milestone/bdd"
)

// modelDoes is the action of the class in which a header lies: each class is asked.
func modelDoes(t *testing.T, b *bdd.Table, row []api.Class, header string) api.Action {
	t.Helper()
	var found []api.Action
	for _, c := range row {
		if has, e := b.Has(c.Where, header); e == api.OK && has {
			found = append(found, c.Action)
		}
	}
	if len(found) != 1 {
		t.Fatalf("%s lies in %d classes", header, len(found))
	}
	return found[0]
}

// modelPeer is the device at the other end of a port; below 0: there is none.
func modelPeer(x api.Topo, device int, port string) int {
	for _, l := range x.Links {
		if l.A == device && l.PortA == port {
			return l.B
		}
		if l.B == device && l.PortB == port {
			return l.A
		}
	}
	return -1
}

// modelPlace are the numbers of copies from a place on, not cut, by those of its Kids.
func modelPlace(x api.Topo, p api.Plan, n int, does api.Action, kid func(k int) []int) []int {
	place := p.Nodes[n]
	if does.Kind == api.Deliver && place.Accept {
		return []int{1}
	}
	if does.Kind != api.All && does.Kind != api.Any {
		return []int{0}
	}
	sums, union := []int{0}, []int{}
	for _, port := range does.Ports {
		of := []int{0}
		for _, k := range place.Kids {
			if p.Nodes[k].Device == modelPeer(x, place.Device, port) {
				of = kid(k)
			}
		}
		union = append(union, of...)
		var next []int
		for _, a := range sums {
			for _, b := range of {
				next = append(next, a+b)
			}
		}
		slices.Sort(next)
		sums = slices.Compact(next)
	}
	if does.Kind == api.Any {
		return union
	}
	return sums
}

// modelNumbers are those of a place, all places behind it being gone through.
func modelNumbers(x api.Topo, p api.Plan, n int, does []api.Action) []int {
	return modelPlace(x, p, n, does[p.Nodes[n].Device], func(k int) []int { return modelNumbers(x, p, k, does) })
}

// modelCut is the set of numbers.
func modelCut(bound int, l []int) api.Counts {
	var c api.Counts
	for _, n := range l {
		c |= 1 << min(n, bound+1)
	}
	return c
}

// modelElements are those of a set, asked bit by bit; that above the bound is as it stands.
func modelElements(c api.Counts) []int {
	var l []int
	for i := range 64 {
		if c>>i&1 == 1 {
			l = append(l, i)
		}
	}
	return l
}

// modelIsResult goes through all headers: each of the packets lies in one entry, others in none.
func modelIsResult(t *testing.T, b *bdd.Table, packets api.Ref, l []api.Entry, bound int) bool {
	t.Helper()
	for i, x := range l {
		mayBe := x.Counts != 0 && (bound == api.MaxCount || x.Counts>>(bound+2) == 0)
		if !mayBe || i > 0 && l[i-1].Counts >= x.Counts || len(within(t, b, x.Where)) == 0 {
			return false
		}
	}
	ofPackets := within(t, b, packets)
	for _, h := range headersOf(b.Bits()) {
		lies := 0
		for _, x := range l {
			if has, _ := b.Has(x.Where, h); has {
				lies++
			}
		}
		if slices.Contains(ofPackets, h) != (lies == 1) || lies > 1 {
			return false
		}
	}
	return true
}

// modelVerdict is that of entries one by one.
func modelVerdict(t *testing.T, b *bdd.Table, l []api.Entry, bound, compare int) api.Verdict {
	t.Helper()
	for _, x := range l {
		for _, n := range modelElements(x.Counts) {
			if compare == api.Equal && n != bound || compare == api.Most && n > bound || compare == api.Least && n < bound {
				// The least header is where Any, with 0 for each x, goes by Low.
				headers := append(within(t, b, x.Where), "")
				return api.Verdict{Header: headers[0], Count: n}
			}
		}
	}
	return api.Verdict{Right: true}
}
