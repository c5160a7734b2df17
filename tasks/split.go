package tasks

import (
	"slices"

	"milestone/api"
)

// sheet is a plan, with what its jobs need to know of other nodes.
type sheet struct {
	api.Plan
	number int
	to     [][]int // of each node the devices that wait for it
	root   []bool  // of each node
}

// tasksOf are the tasks of so many devices, of plans that may be.
func tasksOf(many int, plans []api.Plan) []api.Task {
	l := make([]api.Task, many)
	for device := range l {
		l[device].Device = device
	}
	for number, p := range plans {
		s := sheet{Plan: p, number: number, to: toOf(p), root: rootOf(p)}
		for n, node := range s.Nodes {
			x := &l[node.Device]
			x.Jobs = append(x.Jobs, s.job(n))
		}
	}
	return l
}

// job is that of a node.
func (s *sheet) job(n int) api.Job {
	kids := slices.Clone(s.Nodes[n].Kids)
	var from []int
	for _, k := range kids {
		from = append(from, s.Nodes[k].Device)
	}
	return api.Job{
		Spot: api.Spot{Invariant: s.number, Node: n},
		Kids: kids,
		From: from,
		To:   s.to[n],
		Root: s.root[n],
	}
}

// toOf are, of each node, the Devices of those that have it among their Kids.
func toOf(p api.Plan) [][]int {
	to := make([][]int, len(p.Nodes))
	for _, node := range p.Nodes {
		for _, k := range node.Kids {
			// Those that have k are all of one Level, so that their Devices do not fall: what is there already stands last.
			if last := len(to[k]) - 1; last < 0 || to[k][last] != node.Device {
				to[k] = append(to[k], node.Device)
			}
		}
	}
	return to
}

// rootOf tells of each node whether it is a root; it is known ahead of all jobs, since there may be as many Roots as one likes.
func rootOf(p api.Plan) []bool {
	root := make([]bool, len(p.Nodes))
	for _, n := range p.Roots {
		if n >= 0 {
			root[n] = true
		}
	}
	return root
}
