package plan_test

import (
	"strings"
	"testing"

	"milestone/api"
	"milestone/plan"
)

// P13.1: the document's example; of an ingress whose place is none, or is not kept, the root is -1.
func TestMakeTheExample(t *testing.T) {
	x := inRow(t)
	askMake(t, x, "a .* c", 3, "a", "1.0.1[1] 2.1.1[2] 3.2.2*[] | [0]")
	askMake(t, x, "a .* c", 3, "a c", "1.0.1[1] 2.1.1[2] 3.2.2*[] | [0 -1]")
	askMake(t, x, "a .* c", 3, "a b c", "1.0.1[1] 2.1.1[2] 3.2.2*[] | [0 -1 -1]")
	askMake(t, x, "a .* c", 3, "b", "| [-1]")
	// One hop more, and 4 b leads to 5 c.
	askMake(t, x, "a .* c", 4, "a", "1.0.1[1] 2.1.1[2 3] 3.0.1[4] 3.2.2*[4] 4.1.1[5] 5.2.2*[] | [0]")
	askMake(t, x, "a .* c", 2, "a", "1.0.1[1] 2.1.1[2] 3.2.2*[] | [0]")
	askMake(t, x, "a .* c", 1, "a", "| [-1]")
}

// P13.1: without a hop there is the ingress alone.
func TestMakeWithoutHops(t *testing.T) {
	x := inRow(t)
	askMake(t, x, ".*", 0, "a", "1.0.0*[] | [0]")
	askMake(t, x, ".*", 0, "a c", "1.0.0*[] 1.2.0*[] | [0 1]")
	askMake(t, x, "b", 0, "a b", "1.1.1*[] | [-1 0]")
	askMake(t, x, "a b", 0, "a", "| [-1]")
	askMake(t, x, ". .", 0, "a b c", "| [-1 -1 -1]")
}

// P13.1: 64 hops are paths of 65 devices.
func TestMakeWithMostHops(t *testing.T) {
	x := network(t, "a", "a-a")
	p := made(t, x, invariant(t, "a*", api.MaxHops, "a"))
	same(t, "how many", len(p.Nodes), 65)
	for i, n := range p.Nodes {
		same(t, "Level", n.Level, i+1)
		same(t, "Accept", n.Accept, true)
		same(t, "how many Kids", len(n.Kids), min(1, 64-i))
	}
	of := func(n int) string { return strings.Repeat("a ", n) }
	same(t, "how many", len(made(t, x, invariant(t, of(65), api.MaxHops, "a")).Nodes), 65)
	same(t, "how many", len(made(t, x, invariant(t, of(66), api.MaxHops, "a")).Nodes), 0)
	same(t, "how many", len(made(t, x, invariant(t, of(65), api.MaxHops-1, "a")).Nodes), 0)
}

// P13.1: each place once, whichever way one comes to it; a Kid once, however many links there are.
func TestMakeEachPlaceOnce(t *testing.T) {
	x := diamond(t)
	askMake(t, x, "a . d", 2, "a", "1.0.1[1 2] 2.1.2[3] 2.2.2[3] 3.3.3*[] | [0]")
	askMake(t, x, "a $mid d", 5, "a", "1.0.1[1 2] 2.1.2[3] 2.2.2[3] 3.3.3*[] | [0]")
	askMake(t, network(t, "a b", "a-b b-a a-b"), "a b a?", 2, "a b", "1.0.1[1] 2.1.2*[2] 3.0.3*[] | [0 -1]")
	// d is reached in two states, of which one leads on: they are two places.
	askMake(t, x, "a b d | a c d c", 3, "a", "1.0.1[1 2] 2.1.2[3] 2.2.3[4] 3.3.4*[] 3.3.5[5] 4.2.4*[] | [0]")
	// One of them alone is kept, where a hop is missing.
	askMake(t, x, "a b d | a c d c", 2, "a", "1.0.1[1] 2.1.2[2] 3.3.4*[] | [0]")
}

// P13.1: by Level, Device, State, also where they are found in another order.
func TestMakeOrder(t *testing.T) {
	x := network(t, "a b c", "a-c b-c a-b")
	askMake(t, x, ". .", 1, "a b c", "1.0.1[4 5] 1.1.1[3 5] 1.2.1[3 4] 2.0.2*[] 2.1.2*[] 2.2.2*[] | [0 1 2]")
	// At c the state behind a is met ahead of the one behind b, and is the greater one.
	askMake(t, network(t, "a b c", "a-c b-c"), "a c a | b c* b", 2, "a b",
		"1.0.1[3] 1.1.2[2] 2.2.2[5] 2.2.3[4] 3.0.4*[] 3.1.4*[] | [0 1]")
}

// P13.1: an expression without any path over the devices, and one whose path has no device.
func TestMakeWithoutPaths(t *testing.T) {
	x := inRow(t)
	for _, path := range []string{"$none", "a $none c", "()", "()*", "() | $none", "$none*"} {
		for _, hops := range []int{0, 1, api.MaxHops} {
			askMake(t, x, path, hops, "a b c", "| [-1 -1 -1]")
		}
	}
	askMake(t, x, "() | b", 4, "a b c", "1.1.1*[] | [-1 0 -1]")
	askMake(t, x, "a c", 4, "a b c", "| [-1 -1 -1]")
	askMake(t, network(t, "a b", ""), ". .", 4, "a b", "| [-1 -1]")
}

// P13.1: a device is next to itself just where a link says so.
func TestMakeByALinkWithItself(t *testing.T) {
	askMake(t, network(t, "a", ""), "a a", 4, "a", "| [-1]")
	askMake(t, network(t, "a", "a-a"), "a a", 4, "a", "1.0.1[1] 2.0.2*[] | [0]")
	askMake(t, network(t, "a b", "a-b b-b"), "a+ b+", 2, "a", "1.0.1[1] 2.1.2*[2] 3.1.2*[] | [0]")
}

// P13.1: at MaxPlan all is as below it; places that are not kept count as well.
func TestMakeAsManyAsMayBe(t *testing.T) {
	x := loops(t, 256, "", "")
	p := made(t, x, invariant(t, ".*", 63, allOf(x)))
	same(t, "how many", len(p.Nodes), api.MaxPlan)
	same(t, "the last Kid", p.Nodes[api.MaxPlan-257].Kids[0], api.MaxPlan-1)
	askCheck(t, "as many as may be", x, p, api.OK)
	askNoMake(t, "65 levels", x, invariant(t, ".*", 64, allOf(x)), api.ErrMany)

	// 252 times 65 places, and those of the others.
	x = loops(t, 252, "u v x y", "u-v")
	same(t, "how many", len(made(t, x, invariant(t, "$loop* | x | y | u v?", 64, allOf(x))).Nodes), api.MaxPlan)
	askNoMake(t, "one more", x, invariant(t, "$loop* | x | y | u v? | v", 64, allOf(x)), api.ErrMany)
	// y is next to none: its place is there, and is not kept.
	p = made(t, x, invariant(t, "$loop* | x | u v? | y v", 64, allOf(x)))
	same(t, "how many", len(p.Nodes), api.MaxPlan-1)
	askNoMake(t, "one more that is not kept", x, invariant(t, "$loop* | x | u v? | y v | v x", 64, allOf(x)), api.ErrMany)

	// Nothing but z is kept.
	x = loops(t, 252, "z", "")
	p = made(t, x, invariant(t, ".* z", 64, allOf(x)))
	same(t, "how many", len(p.Nodes), 1)
	same(t, "the root of z", p.Roots[252], 0)
	x = loops(t, 253, "z", "")
	askNoMake(t, "none of which is kept", x, invariant(t, ".* z", 64, allOf(x)), api.ErrMany)
}

// P13.2: what may be, though no invariant has it.
func TestCheckWhatMayBe(t *testing.T) {
	x := inRow(t)
	for what, p := range map[string]api.Plan{
		"nothing":              {},
		"empty lists":          {Nodes: []api.PlanNode{}, Roots: []int{}},
		"no root":              planOf(nil, node(1, 0, 0, true)),
		"roots of none":        planOf([]int{-1, -1, -1, -1, -1}),
		"one root twice":       planOf([]int{0, -1, 0}, node(1, 0, 0, true)),
		"no node of level 1":   planOf(nil, node(7, 1, 2, true)),
		"the last level":       planOf(nil, node(65, 2, 0, true)),
		"great states":         planOf([]int{1, 0}, node(1, 0, 1<<40, true), node(1, 1, 1<<62, true)),
		"states of one device": planOf([]int{1, 0}, node(1, 0, 3, true), node(1, 0, 4, true)),
		"Accept with Kids":     planOf([]int{0}, node(1, 0, 0, true, 1), node(2, 1, 0, true)),
		"levels left out":      planOf([]int{0}, node(1, 0, 0, true), node(3, 1, 0, true)),
		"a Kid of two":         planOf([]int{0, 1}, node(1, 0, 0, false, 2), node(1, 2, 0, false, 2), node(2, 1, 0, true)),
		"two Kids":             planOf([]int{0}, node(1, 1, 0, false, 1, 3), node(2, 0, 0, true), node(2, 0, 1, true), node(2, 2, 0, true)),
	} {
		askCheck(t, what, x, p, api.OK)
	}
	askCheck(t, "a Kid at its own device", network(t, "a", "a-a"), planOf([]int{0}, node(1, 0, 0, false, 1), node(2, 0, 0, true)), api.OK)
}

// P13.3: the document's example, and some others.
func TestDevices(t *testing.T) {
	p := made(t, inRow(t), invariant(t, "a .* c", 3, "a"))
	askDevices(t, p, 0, 0, 1, 2)
	askDevices(t, p, 1, 1, 2)
	askDevices(t, p, 2, 2)
	p = made(t, diamond(t), invariant(t, "a b d | a c d c", 3, "a"))
	askDevices(t, p, 0, 0, 1, 2, 3)
	askDevices(t, p, 1, 1, 3)
	askDevices(t, p, 2, 2, 3)
	askDevices(t, p, 3, 3)
	askDevices(t, p, 4, 2, 3)
	// Nodes whose Devices fall, are below 0, or are alike; and a way to no Accept.
	p = planOf(nil, node(0, 9, 0, false, 2, 1), node(0, -5, 0, false, 3), node(0, 9, 0, false, 3), node(0, 4, 0, false), node(0, 7, 0, true))
	askDevices(t, p, 0, -5, 4, 9)
	askDevices(t, p, 1, -5, 4)
	askDevices(t, p, 2, 4, 9)
	askDevices(t, p, 3, 4)
	askDevices(t, p, 4, 7)
}

// P13.3: the order: a row ahead of those that it begins, else by the numbers of the first nodes in which they are unlike.
func TestPaths(t *testing.T) {
	p := made(t, inRow(t), invariant(t, "a .* c", 5, "a"))
	askPaths(t, p, 0, "[[0 1 0 1 2] [0 1 2] [0 1 2 1 2]]")
	p = made(t, diamond(t), invariant(t, ".*", 2, "a"))
	askPaths(t, p, 0, "[[0] [0 1] [0 1 0] [0 1 3] [0 2] [0 2 0] [0 2 3]]")
	askPaths(t, p, 1, "[[1] [1 0] [1 3]]")
	askPaths(t, p, 3, "[[0]]")
	// By numbers of nodes, not by those of devices.
	askPaths(t, planOf(nil, node(1, 5, 0, false, 1, 2), node(2, 9, 0, true), node(2, 3, 0, true)), 0, "[[5 9] [5 3]]")
	// Kids that do not rise.
	askPaths(t, graph([]int{1, 2, 3, 4}, []int{4, 1, 3}, []int{3, 2}, []int{4}, nil, nil), 0,
		"[[100 101] [100 101 102] [100 101 102 104] [100 101 103] [100 103] [100 104]]")
	// Two nodes at one device are two ways; a Kid that stands there twice is two as well.
	askPaths(t, planOf(nil, node(1, 5, 0, false, 1, 2), node(2, 9, 0, true), node(2, 9, 1, true)), 0, "[[5 9] [5 9]]")
	askPaths(t, graph([]int{1, 2}, []int{1, 1}, []int{2}, nil), 0, "[[100 101] [100 101] [100 101 102] [100 101 102]]")
}

// P13.3: a node without a way to Accept has no path, whatever is below 0 or above.
func TestPathsOfNone(t *testing.T) {
	p := graph([]int{3}, []int{1, 2}, []int{2}, nil, nil)
	for n := range 3 {
		askPaths(t, p, n, "[]")
	}
	askPaths(t, p, 3, "[[103]]")
}

// P13.3: more paths, and more ways to none, than anybody can go along.
func TestPathsOfAMultitude(t *testing.T) {
	var p api.Plan
	for i := range 400 {
		p.Nodes = append(p.Nodes, node(1, i%7, 0, false, 2*(i/2)+2, 2*(i/2)+3))
	}
	p.Nodes = append(p.Nodes, node(1, 0, 0, false), node(1, 1, 0, false))
	askPaths(t, p, 0, "[]")
	same(t, "how many devices", len(devices(t, p, 0)), 7)
	p.Nodes[401].Accept = true
	for _, most := range []int{0, 1, 1 << 20, 1<<62 - 1, 1 << 62, 1<<63 - 1} {
		askNoPaths(t, p, 0, most, api.ErrMany)
	}
	askPaths(t, p, 399, "[[0 1]]")
	// There are 2^63, and from the one ahead 2^64.
	askNoPaths(t, p, 400-2*64, 1<<63-1, api.ErrMany)
	askNoPaths(t, p, 400-2*65, 1<<63-1, api.ErrMany)
	// One way among a multitude that leads nowhere.
	p.Nodes[401].Accept = false
	p.Nodes[40].Accept = true
	p.Nodes[0].Kids, p.Nodes[2].Kids = []int{2}, []int{40, 5}
	p.Nodes[38].Kids, p.Nodes[39].Kids = []int{41}, []int{41}
	askPaths(t, p, 0, "[[0 2 5]]")
}

// P13.3: a way as long as a plan is great.
func TestPathsOfALongWay(t *testing.T) {
	const long = 1 << 20
	p := api.Plan{Nodes: make([]api.PlanNode, long)}
	for i := range long - 1 {
		p.Nodes[i].Kids = []int{i + 1}
		p.Nodes[i].Device = i
	}
	p.Nodes[long-1].Accept = true
	l, e := plan.Paths(p, 1, 1)
	if e != api.OK || len(l) != 1 || len(l[0]) != long-1 || l[0][long-3] != long-2 {
		t.Errorf("Paths of a long way: %d, %v", len(l), e)
	}
}

func devices(t *testing.T, p api.Plan, n int) []int {
	t.Helper()
	l, e := plan.Devices(p, n)
	if e != api.OK {
		t.Fatal(e)
	}
	return l
}

// P13.3: the first Kid with that Device.
func TestKid(t *testing.T) {
	p := made(t, diamond(t), invariant(t, ".*", 2, "a"))
	askKid(t, p, 0, 0, 0, false)
	askKid(t, p, 0, 1, 1, true)
	askKid(t, p, 0, 2, 2, true)
	askKid(t, p, 0, 3, 0, false)
	askKid(t, p, 1, 3, 4, true)
	askKid(t, p, 3, 1, 0, false)
	p = planOf(nil, node(1, 5, 0, false, 3, 2, 1), node(2, 9, 0, true), node(2, -9, 0, true), node(2, 9, 1, true))
	askKid(t, p, 0, 9, 3, true)
	askKid(t, p, 0, -9, 2, true)
	askKid(t, p, 0, 5, 0, false)
}

// P13.4: each field alone sets two plans apart.
func TestSame(t *testing.T) {
	base := func() api.Plan {
		return planOf([]int{0, -1}, node(1, 0, 3, false, 1, 2), node(2, 1, 4, true), node(2, 2, 5, true))
	}
	askSame(t, "alike", base(), base(), true)
	askSame(t, "nothing", api.Plan{}, api.Plan{}, true)
	askSame(t, "nothing, but lists", api.Plan{}, api.Plan{Nodes: []api.PlanNode{}, Roots: []int{}}, true)
	empty := base()
	empty.Nodes[1].Kids = []int{}
	askSame(t, "an empty list of Kids", base(), empty, true)
	for what, change := range map[string]func(p *api.Plan){
		"Level":         func(p *api.Plan) { p.Nodes[1].Level++ },
		"Device":        func(p *api.Plan) { p.Nodes[2].Device-- },
		"State":         func(p *api.Plan) { p.Nodes[0].State = 2 },
		"Accept":        func(p *api.Plan) { p.Nodes[2].Accept = false },
		"a Kid":         func(p *api.Plan) { p.Nodes[0].Kids[1] = 3 },
		"the first Kid": func(p *api.Plan) { p.Nodes[0].Kids[0] = 0 },
		"one Kid more":  func(p *api.Plan) { p.Nodes[2].Kids = []int{1} },
		"one Kid fewer": func(p *api.Plan) { p.Nodes[0].Kids = p.Nodes[0].Kids[:1] },
		"no Kids":       func(p *api.Plan) { p.Nodes[0].Kids = nil },
		"a node fewer":  func(p *api.Plan) { p.Nodes = p.Nodes[:2] },
		"a node more":   func(p *api.Plan) { p.Nodes = append(p.Nodes, api.PlanNode{}) },
		"nodes turned":  func(p *api.Plan) { p.Nodes[1], p.Nodes[2] = p.Nodes[2], p.Nodes[1] },
		"no nodes":      func(p *api.Plan) { p.Nodes = nil },
		"a root":        func(p *api.Plan) { p.Roots[1] = 0 },
		"a root more":   func(p *api.Plan) { p.Roots = append(p.Roots, -1) },
		"a root fewer":  func(p *api.Plan) { p.Roots = p.Roots[:1] },
		"roots turned":  func(p *api.Plan) { p.Roots = []int{-1, 0} },
		"no roots":      func(p *api.Plan) { p.Roots = nil },
	} {
		p := base()
		change(&p)
		askSame(t, what, base(), p, false)
	}
}
