package tasks_test

import (
	"slices"

	"milestone/api"
)

// modelTasks are the tasks of plans as the document says them, without thrift: each node is asked of all others.
func modelTasks(x api.Topo, plans []api.Plan) []api.Task {
	var l []api.Task
	for device := range x.Devices {
		y := api.Task{Device: device}
		for i, p := range plans {
			for n := range p.Nodes {
				if p.Nodes[n].Device == device {
					y.Jobs = append(y.Jobs, modelJob(x, p, i, n))
				}
			}
		}
		l = append(l, y)
	}
	return l
}

func modelJob(x api.Topo, p api.Plan, i, n int) api.Job {
	j := api.Job{Root: slices.Contains(p.Roots, n)}
	j.Invariant, j.Node = i, n
	for _, k := range p.Nodes[n].Kids {
		j.Kids = append(j.Kids, k)
		j.From = append(j.From, p.Nodes[k].Device)
	}
	for device := range x.Devices {
		for _, m := range p.Nodes {
			if m.Device == device && slices.Contains(m.Kids, n) {
				j.To = append(j.To, device)
				break
			}
		}
	}
	return j
}

// modelMayBe tells by the document's words whether a task may be.
func modelMayBe(x api.Task) bool {
	isDevice := func(n int) bool { return n >= 0 && n <= 255 }
	for i, j := range x.Jobs {
		if j.Invariant < 0 || j.Invariant > 63 || j.Node < 0 || j.Node > 16383 || len(j.From) != len(j.Kids) {
			return false
		}
		if i > 0 {
			a := x.Jobs[i-1]
			if a.Invariant > j.Invariant || a.Invariant == j.Invariant && a.Node >= j.Node {
				return false
			}
		}
		for k := range j.Kids {
			if j.Kids[k] <= j.Node || j.Kids[k] > 16383 || k > 0 && j.Kids[k-1] >= j.Kids[k] {
				return false
			}
			if !isDevice(j.From[k]) || slices.Contains(j.From[:k], j.From[k]) {
				return false
			}
		}
		for k := range j.To {
			if !isDevice(j.To[k]) || k > 0 && j.To[k-1] >= j.To[k] {
				return false
			}
		}
	}
	return isDevice(x.Device)
}

// modelHears goes through all spots that there are, in their order.
func modelHears(x api.Task, from int) []api.Spot {
	var l []api.Spot
	for i := range 64 {
		var kids []int
		for _, j := range x.Jobs {
			for k, kid := range j.Kids {
				if j.Invariant == i && j.From[k] == from {
					kids = append(kids, kid)
				}
			}
		}
		slices.Sort(kids)
		for _, kid := range slices.Compact(kids) {
			l = append(l, api.Spot{Invariant: i, Node: kid})
		}
	}
	return l
}

func modelTells(x api.Task, to int) []api.Spot {
	var l []api.Spot
	for _, j := range x.Jobs {
		for _, device := range j.To {
			if device == to {
				l = append(l, api.Spot{Invariant: j.Invariant, Node: j.Node})
			}
		}
	}
	return l
}

func modelNear(x api.Task) []int {
	var l []int
	for device := range 256 {
		for _, j := range x.Jobs {
			if device != x.Device && (slices.Contains(j.From, device) || slices.Contains(j.To, device)) {
				l = append(l, device)
				break
			}
		}
	}
	return l
}

// modelBackwards takes away the greatest node of the least invariant, as long as there are some.
func modelBackwards(x api.Task) []int {
	var l []int
	for len(l) < len(x.Jobs) {
		best := -1
		for i, j := range x.Jobs {
			if slices.Contains(l, i) {
				continue
			}
			if best < 0 || j.Invariant < x.Jobs[best].Invariant || j.Invariant == x.Jobs[best].Invariant && j.Node > x.Jobs[best].Node {
				best = i
			}
		}
		l = append(l, best)
	}
	return l
}
