package central_test

import (
	"math/big"
	"slices"

	"milestone/api"
)

// modelDoes is what a device does with a header, by the document's words: no rule is looked for ahead of another one.
func modelDoes(row []api.Rule, header string) api.Action {
	best := api.Rule{Priority: -1, Action: api.Action{Kind: api.Drop}}
	for _, r := range row {
		meets := true
		for i := range header {
			meets = meets && (r.Match[i] == 'x' || r.Match[i] == header[i])
		}
		if meets && (r.Priority > best.Priority || r.Priority == best.Priority && r.Match < best.Match) {
			best = r
		}
	}
	return best.Action
}

// modelPeer is the device at the other end of a port; below 0: there is none.
func modelPeer(x api.Topo, device int, port string) int {
	for _, l := range x.Links {
		if l.A == device && l.PortA == port {
			return l.B
		}
		if l.B == device && l.PortB == port {
			return l.A
		}
	}
	return -1
}

// modelNumbers are the numbers of copies that are possible from a place on, not cut: each way to choose is gone.
func modelNumbers(x api.Topo, p api.Plan, fibs [][]api.Rule, n int, header string) []int {
	place := p.Nodes[n]
	does := modelDoes(fibs[place.Device], header)
	switch does.Kind {
	case api.Drop:
		return []int{0}
	case api.Deliver:
		if place.Accept {
			return []int{1}
		}
		return []int{0}
	}
	sums, union := []int{0}, []int{}
	for _, port := range does.Ports {
		of := []int{0}
		for _, k := range p.Nodes[n].Kids {
			if p.Nodes[k].Device == modelPeer(x, place.Device, port) {
				of = modelNumbers(x, p, fibs, k, header)
			}
		}
		union = append(union, of...)
		var next []int
		for _, a := range sums {
			for _, b := range of {
				next = append(next, a+b)
			}
		}
		slices.Sort(next)
		sums = slices.Compact(next)
	}
	if does.Kind == api.Any {
		return union
	}
	return sums
}

// modelCut is the set of numbers.
func modelCut(bound int, l ...int) api.Counts {
	var c api.Counts
	for _, n := range l {
		c |= setOf(min(n, bound+1))
	}
	return c
}

// modelVerdict goes through the elements of a set, rising.
func modelVerdict(c api.Counts, header string, bound, compare int) api.Verdict {
	for i := range 64 {
		holds := compare == api.Equal && i == bound || compare == api.Most && i <= bound || compare == api.Least && i >= bound
		if c&setOf(i) != 0 && !holds {
			return api.Verdict{Header: header, Count: i}
		}
	}
	return api.Verdict{Right: true}
}

// modelCopies is the product, without bound.
func modelCopies(x api.Topo, fibs [][]api.Rule, header string, path ...int) *big.Int {
	product := big.NewInt(int64(min(len(path), 1)))
	for i, device := range path {
		does := modelDoes(fibs[device], header)
		factor := 0
		switch {
		case i == len(path)-1:
			if does.Kind == api.Deliver {
				factor = 1
			}
		case does.Kind == api.All:
			for _, port := range does.Ports {
				if modelPeer(x, device, port) == path[i+1] {
					factor++
				}
			}
		}
		product.Mul(product, big.NewInt(int64(factor)))
	}
	return product
}
