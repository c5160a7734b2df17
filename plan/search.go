package plan

import (
	"cmp"
	"slices"

	"milestone/api"
)

// search goes through a ground from level to level.
type search struct {
	ground
	met     []place
	numbers map[spot]int
}

// spot is what sets a place apart from all others.
type spot struct {
	level, device, state int
}

// found are all places, each once, those of a level ahead of those of the next one.
func (s *search) found() []place {
	s.numbers = map[spot]int{}
	for p := range s.first() {
		s.number(p)
	}
	for i := 0; i < len(s.met); i++ {
		var kids []int
		for p := range s.behind(s.met[i]) {
			kids = append(kids, s.number(p))
		}
		s.met[i].Kids = kids
	}
	return s.met
}

// number is that of a place, the next one if it is met for the first time. A place that is one too many gives up.
func (s *search) number(p place) int {
	at := spot{p.Level, p.Device, p.State}
	n, met := s.numbers[at]
	if met {
		return n
	}
	n = len(s.met)
	if n == api.MaxPlan {
		panic(api.ErrMany)
	}
	s.numbers[at] = n
	s.met = append(s.met, p)
	return n
}

// planOf has those of all places that are kept.
func planOf(l []place, ingress []int) api.Plan {
	keep(l)
	p := api.Plan{Nodes: nodesOf(l)}
	for _, device := range ingress {
		p.Roots = append(p.Roots, slices.IndexFunc(p.Nodes, func(n api.PlanNode) bool {
			return n.Level == 1 && n.Device == device
		}))
	}
	return p
}

// keep goes from the last place on, since those behind a place were found after it.
func keep(l []place) {
	for i := len(l) - 1; i >= 0; i-- {
		l[i].kept = l[i].Accept || slices.ContainsFunc(l[i].Kids, func(k int) bool { return l[k].kept })
	}
}

// nodesOf are the kept places in a plan's order, with Kids by the numbers in it.
func nodesOf(l []place) []api.PlanNode {
	var kept []int
	for i := range l {
		if l[i].kept {
			kept = append(kept, i)
		}
	}
	slices.SortFunc(kept, func(i, j int) int { return order(l[i].PlanNode, l[j].PlanNode) })
	numbers := make([]int, len(l))
	for n, i := range kept {
		numbers[i] = n
	}
	var nodes []api.PlanNode
	for _, i := range kept {
		n := l[i].PlanNode
		n.Kids = nil
		// They rise as they are, since they were found by their devices, one of each.
		for _, k := range l[i].Kids {
			if l[k].kept {
				n.Kids = append(n.Kids, numbers[k])
			}
		}
		nodes = append(nodes, n)
	}
	return nodes
}

// order is which of two nodes comes first in a plan.
func order(a, b api.PlanNode) int {
	return cmp.Or(cmp.Compare(a.Level, b.Level), cmp.Compare(a.Device, b.Device), cmp.Compare(a.State, b.State))
}
