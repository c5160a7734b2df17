package plan

import (
	"iter"
	"slices"

	"milestone/api"
)

// devicesFrom are those of a node and of all that are reached from it; each of these is above the one that reaches it.
func devicesFrom(p api.Plan, n int) []int {
	var l []int
	reached := make([]bool, len(p.Nodes))
	reached[n] = true
	for i := n; i < len(p.Nodes); i++ {
		if !reached[i] {
			continue
		}
		l = append(l, p.Nodes[i].Device)
		for _, k := range p.Nodes[i].Kids {
			reached[k] = true
		}
	}
	slices.Sort(l)
	return slices.Compact(l)
}

// howMany paths there are from each node; most stands for that many and more.
func howMany(p api.Plan, most uint64) []uint64 {
	many := make([]uint64, len(p.Nodes))
	for n := len(p.Nodes) - 1; n >= 0; n-- {
		if p.Nodes[n].Accept {
			many[n] = 1
		}
		for _, k := range p.Nodes[n].Kids {
			// The sum of both may wrap round.
			many[n] += min(many[k], most-many[n])
		}
	}
	return many
}

// pathsFrom are the paths from a node, many being how many there are from each.
func pathsFrom(p api.Plan, n int, many []uint64) [][]int {
	w := walk{nodes: p.Nodes, onward: onwardOf(p, many)}
	var rows [][]int
	for way := range w.from(n) {
		rows = append(rows, slices.Clone(way))
	}
	// The Kids of a plan that may not be need not rise.
	slices.SortFunc(rows, slices.Compare[[]int])
	for _, row := range rows {
		for i, node := range row {
			row[i] = p.Nodes[node].Device
		}
	}
	return rows
}

// onwardOf are the Kids of each node from which there is a path: where there is none, there may still be more ways than can be gone along.
func onwardOf(p api.Plan, many []uint64) [][]int {
	onward := make([][]int, len(p.Nodes))
	for n, node := range p.Nodes {
		for _, k := range node.Kids {
			if many[k] > 0 {
				onward[n] = append(onward[n], k)
			}
		}
	}
	return onward
}

// walk goes along the ways of a plan. It does not call itself, since a way may be as long as a plan is great.
type walk struct {
	nodes  []api.PlanNode
	onward [][]int
	way    []int // the nodes to where one stands
	gone   []int // of each of them, how many Kids have been gone to
}

// from are the ways from a node to one with Accept; each holds till the next one is asked for.
func (w *walk) from(n int) iter.Seq[[]int] {
	return func(yield func([]int) bool) {
		if w.enter(n) && !yield(w.way) {
			return
		}
		for len(w.way) > 0 {
			last := len(w.way) - 1
			kids, gone := w.onward[w.way[last]], w.gone[last]
			if gone == len(kids) {
				w.way, w.gone = w.way[:last], w.gone[:last]
				continue
			}
			w.gone[last]++
			if w.enter(kids[gone]) && !yield(w.way) {
				return
			}
		}
	}
}

// enter goes on to a node, and tells whether a path may end there.
func (w *walk) enter(n int) bool {
	w.way = append(w.way, n)
	w.gone = append(w.gone, 0)
	return w.nodes[n].Accept
}
