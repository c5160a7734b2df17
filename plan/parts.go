package plan

import "milestone/api"

// nodesMayBe tells whether all nodes may be those of a plan over a topology.
func nodesMayBe(l []api.PlanNode, t api.Topo) bool {
	for i, n := range l {
		if i > 0 && order(l[i-1], n) >= 0 || !fieldsMayBe(n, t) {
			return false
		}
	}
	joined := joinedOf(t)
	for _, n := range l {
		if !kidsMayBe(n, l, joined[n.Device]) {
			return false
		}
	}
	return true
}

func fieldsMayBe(n api.PlanNode, t api.Topo) bool {
	return 1 <= n.Level && n.Level <= api.MaxHops+1 && 0 <= n.Device && n.Device < len(t.Devices) &&
		n.State >= 0 && (n.Accept || len(n.Kids) > 0)
}

// kidsMayBe tells whether those of a node may be, among nodes all of whose fields may be; near tells of each device whether it is next to the node's.
func kidsMayBe(n api.PlanNode, l []api.PlanNode, near []bool) bool {
	for i, k := range n.Kids {
		if k < 0 || k >= len(l) || l[k].Level != n.Level+1 || !near[l[k].Device] {
			return false
		}
		// Nodes of one level that rise have Devices that do not fall: two that are alike stand side by side.
		if i > 0 && (n.Kids[i-1] >= k || l[n.Kids[i-1]].Device == l[k].Device) {
			return false
		}
	}
	return true
}

func rootsMayBe(p api.Plan) bool {
	for _, r := range p.Roots {
		if r != -1 && (r < 0 || r >= len(p.Nodes) || p.Nodes[r].Level != 1) {
			return false
		}
	}
	return true
}

// joinedOf tells of each two devices whether they are next to one another.
func joinedOf(t api.Topo) [][]bool {
	joined := make([][]bool, len(t.Devices))
	for device, near := range nearOf(t) {
		joined[device] = make([]bool, len(t.Devices))
		for _, other := range near {
			joined[device][other] = true
		}
	}
	return joined
}

// goesUp tells whether all Kids are numbers of nodes above their own.
func goesUp(p api.Plan) bool {
	for n, node := range p.Nodes {
		for _, k := range node.Kids {
			if k <= n || k >= len(p.Nodes) {
				return false
			}
		}
	}
	return true
}
