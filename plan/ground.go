package plan

import (
	"iter"

	"milestone/api"
	"milestone/topo"
)

// ground is where an invariant's places are looked for: devices are told by their numbers.
type ground struct {
	api.Dfa
	near    [][]int // of each device
	ingress []int
	hops    int
}

// place is one of an invariant's, kept or not: its Kids are all places behind it, by the numbers in which they were found.
type place struct {
	api.PlanNode
	kept bool
}

// first are the places of level 1.
func (g *ground) first() iter.Seq[place] { return g.places(1, 0, g.ingress) }

// behind are the places behind one.
func (g *ground) behind(p place) iter.Seq[place] {
	if p.Level > g.hops {
		return g.places(0, 0, nil)
	}
	return g.places(p.Level+1, p.State, g.near[p.Device])
}

// places are those of a level to which a state leads at devices.
func (g *ground) places(level, state int, devices []int) iter.Seq[place] {
	return func(yield func(place) bool) {
		// An automaton without any state has no first one either.
		if len(g.Next) == 0 {
			return
		}
		for _, device := range devices {
			next := g.Next[state][device]
			if next >= 0 && !yield(g.place(level, device, next)) {
				return
			}
		}
	}
}

func (g *ground) place(level, device, state int) place {
	return place{PlanNode: api.PlanNode{Level: level, Device: device, State: state, Accept: g.Accept[state]}}
}

// nearOf are, of each device, those next to it, rising.
func nearOf(t api.Topo) [][]int {
	var l [][]int
	for device := range t.Devices {
		l = append(l, topo.Near(t, device))
	}
	return l
}

// whosOf are all devices with their classes.
func whosOf(t api.Topo) []api.Who {
	var l []api.Who
	for device := range t.Devices {
		w, _ := topo.Who(t, device)
		l = append(l, w)
	}
	return l
}

// ingressOf are the devices of an invariant that the topology may have: it names no others.
func ingressOf(t api.Topo, v api.Invariant) []int {
	var l []int
	for _, name := range v.Ingress {
		device, _ := topo.Find(t, name)
		l = append(l, device)
	}
	return l
}
