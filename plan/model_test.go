package plan_test

import (
	"slices"
	"sort"

	"milestone/api"
	"milestone/dfa"
	"milestone/regex"
	"milestone/topo"
)

// modelPlace is a place by the document's words.
type modelPlace struct{ level, device, state int }

// model makes a plan as the document says it, without thrift: each way is gone along, each place asked anew.
type model struct {
	x    api.Topo
	v    api.Invariant
	d    api.Dfa
	all  map[modelPlace]int
	keep map[modelPlace]int
	near map[int][]int // what next has told
}

// next are the devices next to one, by the links alone.
func (m *model) next(device int) []int {
	if l, there := m.near[device]; there {
		return l
	}
	var l []int
	for other := range m.x.Devices {
		for _, k := range m.x.Links {
			if k.A == device && k.B == other || k.B == device && k.A == other {
				l = append(l, other)
				break
			}
		}
	}
	m.near[device] = l
	return l
}

// behind are the places behind one.
func (m *model) behind(p modelPlace) []modelPlace {
	var l []modelPlace
	if p.level <= m.v.Hops {
		for _, device := range m.next(p.device) {
			if s := m.d.Next[p.state][device]; s >= 0 {
				l = append(l, modelPlace{p.level + 1, device, s})
			}
		}
	}
	return l
}

// visit takes down a place and all that are behind it, and tells whether it is kept.
func (m *model) visit(p modelPlace) bool {
	if m.all[p] > 0 {
		return m.keep[p] > 0
	}
	m.all[p] = 1
	if m.d.Accept[p.state] {
		m.keep[p] = 1
	}
	for _, k := range m.behind(p) {
		if m.visit(k) {
			m.keep[p] = 1
		}
	}
	return m.keep[p] > 0
}

// modelPlan is the plan of an invariant that a topology may have, and how many places there are.
func modelPlan(x api.Topo, v api.Invariant) (api.Plan, int) {
	m := &model{x: x, v: v, all: map[modelPlace]int{}, keep: map[modelPlace]int{}, near: map[int][]int{}}
	var whos []api.Who
	for _, d := range x.Devices {
		whos = append(whos, api.Who{Name: d.Name, Classes: d.Classes})
	}
	m.d, _ = dfa.Build(v.Path, whos...)
	first := map[string]modelPlace{}
	for _, name := range v.Ingress {
		device, _ := topo.Find(x, name)
		if len(m.d.Next) > 0 && m.d.Next[0][device] >= 0 {
			first[name] = modelPlace{1, device, m.d.Next[0][device]}
			m.visit(first[name])
		}
	}
	var l []modelPlace
	for p := range m.keep {
		l = append(l, p)
	}
	slices.SortFunc(l, func(a, b modelPlace) int {
		return slices.Compare([]int{a.level, a.device, a.state}, []int{b.level, b.device, b.state})
	})
	number := map[modelPlace]int{{}: -1}
	for i, n := range l {
		number[n] = i
	}
	var p api.Plan
	for _, n := range l {
		var kids []int
		for _, k := range m.behind(n) {
			if m.keep[k] > 0 {
				kids = append(kids, number[k])
			}
		}
		slices.Sort(kids)
		p.Nodes = append(p.Nodes, node(n.level, n.device, n.state, m.d.Accept[n.state], kids...))
	}
	for _, name := range v.Ingress {
		root, kept := number[first[name]]
		if !kept {
			root = -1
		}
		p.Roots = append(p.Roots, root)
	}
	return p, len(m.all)
}

// rightPaths are those of an invariant from an ingress, by regex.Match alone.
func rightPaths(x api.Topo, v api.Invariant, ingress string) [][]int {
	m := &model{x: x, v: v, near: map[int][]int{}}
	var l [][]int
	var grow func(path []int, whos []api.Who)
	grow = func(path []int, whos []api.Who) {
		if ok, _ := regex.Match(v.Path, whos...); ok {
			l = append(l, slices.Clone(path))
		}
		if len(path) <= v.Hops {
			for _, device := range m.next(path[len(path)-1]) {
				w, _ := topo.Who(x, device)
				grow(append(slices.Clone(path), device), append(slices.Clone(whos), w))
			}
		}
	}
	device, _ := topo.Find(x, ingress)
	w, _ := topo.Who(x, device)
	grow([]int{device}, []api.Who{w})
	return l
}

// modelPaths are the rows of nodes from one to those with Accept, in the document's order, as their devices.
func modelPaths(p api.Plan, n int) [][]int {
	var rows [][]int
	var grow func(row []int)
	grow = func(row []int) {
		last := p.Nodes[row[len(row)-1]]
		if last.Accept {
			rows = append(rows, row)
		}
		for _, k := range last.Kids {
			grow(append(slices.Clone(row), k))
		}
	}
	grow([]int{n})
	sort.SliceStable(rows, func(i, j int) bool { return ahead(rows[i], rows[j]) })
	var l [][]int
	for _, row := range rows {
		var devices []int
		for _, k := range row {
			devices = append(devices, p.Nodes[k].Device)
		}
		l = append(l, devices)
	}
	return l
}

// ahead: a row ahead of those that it begins, else by the first numbers in which they are unlike.
func ahead(a, b []int) bool {
	for i := range a {
		if i == len(b) {
			return false
		}
		if a[i] != b[i] {
			return a[i] < b[i]
		}
	}
	return len(a) < len(b)
}

// modelDevices are the devices of all nodes that are reached from one, itself too.
func modelDevices(p api.Plan, n int) []int {
	come := map[int]int{}
	var visit func(n int)
	visit = func(n int) {
		come[p.Nodes[n].Device]++
		for _, k := range p.Nodes[n].Kids {
			visit(k)
		}
	}
	visit(n)
	var l []int
	for device := range come {
		l = append(l, device)
	}
	slices.Sort(l)
	return l
}

// modelMayBe tells by the document's words whether a plan may be, over a topology that may be.
func modelMayBe(x api.Topo, p api.Plan) bool {
	m := &model{x: x, near: map[int][]int{}}
	is := func(n int) bool { return n >= 0 && n < len(p.Nodes) }
	for i, n := range p.Nodes {
		if i > 0 {
			a, b := p.Nodes[i-1], n
			if a.Level > b.Level || a.Level == b.Level && (a.Device > b.Device || a.Device == b.Device && a.State >= b.State) {
				return false
			}
		}
		if n.Level < 1 || n.Level > 65 || n.Device < 0 || n.Device >= len(x.Devices) || n.State < 0 || !n.Accept && len(n.Kids) == 0 {
			return false
		}
		come := map[int]int{}
		for j, k := range n.Kids {
			if j > 0 && n.Kids[j-1] >= k || !is(k) || p.Nodes[k].Level != n.Level+1 || !slices.Contains(m.next(n.Device), p.Nodes[k].Device) {
				return false
			}
			come[p.Nodes[k].Device]++
			if come[p.Nodes[k].Device] > 1 {
				return false
			}
		}
	}
	for _, r := range p.Roots {
		if r < -1 || r >= 0 && (!is(r) || p.Nodes[r].Level != 1) {
			return false
		}
	}
	return len(p.Nodes) <= 16384
}
