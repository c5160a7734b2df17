package plan_test

import (
	"fmt"
	"math"
	"slices"
	"strings"
	"testing"

	"milestone/api"
	"milestone/plan"
	"milestone/topo"
)

// noTopos are topologies that may not be.
func noTopos(t *testing.T) map[string]api.Topo {
	l := map[string]api.Topo{"nothing": {}, "a width alone": {Width: 2}}
	for what, change := range map[string]func(x *api.Topo){
		"no width":            func(x *api.Topo) { x.Width = 0 },
		"a width below 0":     func(x *api.Topo) { x.Width = -2 },
		"a width too great":   func(x *api.Topo) { x.Width = api.MaxBits + 1 },
		"devices that fall":   func(x *api.Topo) { x.Devices[0].Name = "z" },
		"devices alike":       func(x *api.Topo) { x.Devices[1].Name = "a" },
		"no name":             func(x *api.Topo) { x.Devices[2].Name = "" },
		"no port's name":      func(x *api.Topo) { x.Devices[0].Ports[0] = "p p" },
		"no class":            func(x *api.Topo) { x.Devices[0].Classes = []string{""} },
		"a link to nobody":    func(x *api.Topo) { x.Links[1].B = 3 },
		"a link from nobody":  func(x *api.Topo) { x.Links[0].A = -1 },
		"a link to no port":   func(x *api.Topo) { x.Links[1].PortB = "q" },
		"links that fall":     func(x *api.Topo) { x.Links[0], x.Links[1] = x.Links[1], x.Links[0] },
		"a link twice":        func(x *api.Topo) { x.Links = append(x.Links, x.Links[1]) },
		"too many of devices": func(x *api.Topo) { x.Devices = make([]api.Device, api.MaxDevices+1) },
	} {
		x := inRow(t)
		change(&x)
		l[what] = x
	}
	return l
}

// endless is a path expression that is its own Kid.
func endless() api.Regex {
	r := api.Regex{Op: api.RStar, Kids: make([]api.Regex, 1)}
	r.Kids[0] = r
	return r
}

// P13.1: topo.Check's error is the first one, whatever else is at fault.
func TestMakeOverNoTopology(t *testing.T) {
	good, crowd := invariant(t, "a .* c", 3, "a"), invariant(t, ".* a .........", 3, "a")
	for what, x := range noTopos(t) {
		for _, v := range []api.Invariant{good, crowd, {}, {Path: endless()}, invariant(t, "z", 3, "z")} {
			askNoMake(t, what, x, v, api.ErrTopo)
		}
		askCheck(t, what, x, api.Plan{}, api.ErrTopo)
		askCheck(t, what, x, planOf([]int{7}, node(0, 0, 0, false)), api.ErrTopo)
	}
}

// P13.1: invar.Check's error is the next one, its own order within.
func TestMakeOfNoInvariant(t *testing.T) {
	x := inRow(t)
	for what, ask := range map[string]struct {
		change func(v *api.Invariant)
		want   api.Errno
	}{
		"no Name":                    {func(v *api.Invariant) { v.Name = "" }, api.ErrInvariant},
		"no Packets":                 {func(v *api.Invariant) { v.Packets = "" }, api.ErrInvariant},
		"Packets of another byte":    {func(v *api.Invariant) { v.Packets = "2x" }, api.ErrInvariant},
		"no Ingress":                 {func(v *api.Invariant) { v.Ingress = nil }, api.ErrInvariant},
		"Ingress that falls":         {func(v *api.Invariant) { v.Ingress = []string{"b", "a"} }, api.ErrInvariant},
		"Ingress alike":              {func(v *api.Invariant) { v.Ingress = []string{"a", "a"} }, api.ErrInvariant},
		"Hops below 0":               {func(v *api.Invariant) { v.Hops = -1 }, api.ErrInvariant},
		"65 hops":                    {func(v *api.Invariant) { v.Hops = api.MaxHops + 1 }, api.ErrInvariant},
		"hops without end":           {func(v *api.Invariant) { v.Hops = math.MaxInt }, api.ErrInvariant},
		"no Compare":                 {func(v *api.Invariant) { v.Compare = 0 }, api.ErrInvariant},
		"a Count below 0":            {func(v *api.Invariant) { v.Count = -1 }, api.ErrInvariant},
		"a Count too great":          {func(v *api.Invariant) { v.Count = api.MaxCount + 1 }, api.ErrInvariant},
		"no Path":                    {func(v *api.Invariant) { v.Path = api.Regex{} }, api.ErrRegex},
		"no Path, and another width": {func(v *api.Invariant) { v.Path, v.Packets = api.Regex{}, "x" }, api.ErrRegex},
		"an endless Path":            {func(v *api.Invariant) { v.Path = endless() }, api.ErrMany},
		"a deep Path":                {func(v *api.Invariant) { v.Path = deepPath(api.MaxDeep + 1) }, api.ErrDeep},
		"another width":              {func(v *api.Invariant) { v.Packets = "xxx" }, api.ErrWidth},
		"a width, and a name":        {func(v *api.Invariant) { v.Packets, v.Ingress = "x", []string{"z"} }, api.ErrWidth},
		"an ingress of nobody":       {func(v *api.Invariant) { v.Ingress = []string{"a", "b", "d"} }, api.ErrUnknown},
		"a Path of nobody":           {func(v *api.Invariant) { v.Path = parsed(t, "a d c") }, api.ErrUnknown},
	} {
		v := invariant(t, "a .* c", 1, "a")
		ask.change(&v)
		askNoMake(t, what, x, v, ask.want)
	}
	v := invariant(t, "a", 1, "a")
	v.Path = deepPath(api.MaxDeep)
	same(t, "a Path as deep as may be", told(made(t, x, v)), "1.0.0*[1] 2.1.0*[] | [0]")
	askMake(t, x, "a | $nobody", 1, "a", "1.0.1*[] | [0]")
}

// deepPath is any number of any devices, said so deep.
func deepPath(deep int) api.Regex {
	r := api.Regex{Op: api.RAny}
	for range deep - 1 {
		r = api.Regex{Op: api.RStar, Kids: []api.Regex{r}}
	}
	return r
}

// P13.1: dfa.Build's error behind those of invar.Check, also of few places.
func TestMakeOfTooManyStates(t *testing.T) {
	x := inRow(t)
	// Which of the last places were a: of eight there are 512 sets, and one ahead of all.
	v := invariant(t, ".* a ........", 0, "a")
	askNoMake(t, "too many sets", x, v, api.ErrMany)
	v.Packets = "x"
	askNoMake(t, "too many sets, and another width", x, v, api.ErrWidth)
	v.Packets, v.Ingress = "xx", []string{"z"}
	askNoMake(t, "too many sets, and no ingress", x, v, api.ErrUnknown)
	askMake(t, x, ".* a .....", 0, "a", "| [-1]")
}

// P13.2: each reason alone is one for which a plan may not be.
func TestCheckWhatMayNotBe(t *testing.T) {
	x := diamond(t)
	base := func() api.Plan {
		return planOf([]int{0, -1, 0}, node(1, 0, 0, true, 1, 2), node(2, 1, 0, false, 3, 4), node(2, 2, 0, false, 4),
			node(3, 0, 0, true), node(3, 3, 0, true), node(3, 3, 1, true))
	}
	askCheck(t, "what the others are made of", x, base(), api.OK)
	for what, change := range map[string]func(p *api.Plan){
		"Kids that fall":              func(p *api.Plan) { p.Nodes[0].Kids = []int{2, 1} },
		"Kids alike":                  func(p *api.Plan) { p.Nodes[2].Kids = []int{4, 4} },
		"Kids at one device":          func(p *api.Plan) { p.Nodes[2].Kids = []int{4, 5} },
		"the last Kids at one device": func(p *api.Plan) { p.Nodes[1].Kids = []int{3, 4, 5} },
		"a Kid below 0":               func(p *api.Plan) { p.Nodes[2].Kids = []int{-1, 4} },
		"the least Kid":               func(p *api.Plan) { p.Nodes[2].Kids = []int{math.MinInt} },
		"a Kid that is none":          func(p *api.Plan) { p.Nodes[2].Kids = []int{4, 6} },
		"the greatest Kid":            func(p *api.Plan) { p.Nodes[2].Kids = []int{4, math.MaxInt} },
		"a Kid of its own level":      func(p *api.Plan) { p.Nodes[1].Kids = []int{2, 3, 4} },
		"itself as Kid":               func(p *api.Plan) { p.Nodes[2].Kids = []int{2} },
		"a Kid of a lower level":      func(p *api.Plan) { p.Nodes[1].Kids = []int{0} },
		"a Kid two levels on":         func(p *api.Plan) { p.Nodes[0].Kids = []int{1, 2, 4} },
		"a Kid that is not next":      func(p *api.Plan) { p.Nodes[1].Device, p.Nodes[1].Kids = 0, []int{4} },
		"a Kid at its own device":     func(p *api.Plan) { p.Nodes[1].Device = 0 },
		"a Kid at no device":          func(p *api.Plan) { p.Nodes[5].Device, p.Nodes[2].Kids = 4, []int{5} },
		"a Kid at one below 0":        func(p *api.Plan) { p.Nodes[3].Device = -1 },
		"neither Accept nor Kids":     func(p *api.Plan) { p.Nodes[4].Accept = false },
		"no Kids, but a list":         func(p *api.Plan) { p.Nodes[2].Kids = []int{} },
		"a root of level 2":           func(p *api.Plan) { p.Roots[1] = 1 },
		"a root of level 3":           func(p *api.Plan) { p.Roots[2] = 5 },
		"a root that is none":         func(p *api.Plan) { p.Roots[0] = 6 },
		"a root below -1":             func(p *api.Plan) { p.Roots[1] = -2 },
		"the least root":              func(p *api.Plan) { p.Roots[1] = math.MinInt },
		"the greatest root":           func(p *api.Plan) { p.Roots = append(p.Roots, math.MaxInt) },
		"roots without nodes":         func(p *api.Plan) { p.Nodes = nil },
	} {
		p := base()
		change(&p)
		askCheck(t, what, x, p, api.ErrPlan)
	}
}

// P13.2: nodes that have neither Kids nor roots, with one reason each.
func TestCheckNodesThatMayNotBe(t *testing.T) {
	x := inRow(t)
	for what, l := range map[string][]api.PlanNode{
		"level 0":                     {node(0, 0, 0, true)},
		"a level below 0":             {node(-1, 0, 0, true)},
		"level 66":                    {node(66, 0, 0, true)},
		"the least level":             {node(math.MinInt, 0, 0, true), node(1, 0, 0, true)},
		"the greatest level":          {node(1, 0, 0, true), node(math.MaxInt, 0, 0, true)},
		"a device below 0":            {node(1, -1, 0, true)},
		"a device that is none":       {node(1, 3, 0, true)},
		"the greatest device":         {node(1, 2, 0, true), node(1, math.MaxInt, 0, true)},
		"a state below 0":             {node(1, 0, -1, true)},
		"the least state":             {node(1, 0, 0, true), node(1, 1, math.MinInt, true)},
		"no Accept":                   {node(1, 0, 0, false)},
		"nodes alike":                 {node(1, 0, 0, true), node(1, 0, 0, true)},
		"states that fall":            {node(1, 0, 5, true), node(1, 0, 4, true)},
		"devices that fall":           {node(1, 1, 0, true), node(1, 0, 1, true)},
		"levels that fall":            {node(2, 0, 0, true), node(1, 1, 1, true)},
		"the last one falls":          {node(1, 0, 0, true), node(2, 0, 0, true), node(1, 1, 0, true)},
		"the zero value":              {{}},
		"Kids at the greatest level":  {node(65, 0, 0, true, 1), node(66, 1, 0, true)},
		"each other's Kids":           {node(1, 0, 0, false, 1), node(2, 1, 0, false, 0)},
		"a Kid ahead that is no node": {node(1, 0, 0, true, 7), node(1, 1, 0, true, -7)},
	} {
		askCheck(t, what, x, api.Plan{Nodes: l}, api.ErrPlan)
	}
}

// P13.2: at MaxPlan all is as below it.
func TestCheckAsManyAsMayBe(t *testing.T) {
	var p api.Plan
	for i := range api.MaxPlan {
		p.Nodes = append(p.Nodes, node(1, 0, i, true))
	}
	x := inRow(t)
	askCheck(t, "16384 nodes", x, p, api.OK)
	p.Roots = make([]int, 100000)
	askCheck(t, "many roots", x, p, api.OK)
	p.Nodes = append(p.Nodes, node(1, 0, api.MaxPlan, true))
	askCheck(t, "16385 nodes", x, p, api.ErrPlan)
}

// P13.3: Kids that are not above their own number, wherever they stand, ahead of a number that is no node's.
func TestFromAPlanThatDoesNotGoUp(t *testing.T) {
	for what, kids := range map[string][][]int{
		"its own":          {{0}, nil},
		"a lower one":      {{1}, {0}},
		"below 0":          {{1}, {-1}},
		"no node":          {{2}, nil},
		"far above":        {{1}, nil, {math.MaxInt}},
		"far below":        {{1, math.MinInt}, nil},
		"the last one's":   {nil, nil, nil, {3}},
		"behind right one": {{1, 2, 0}, {2}, nil},
	} {
		p := graph([]int{0, 1}, kids...)
		for _, n := range []int{math.MinInt, -1, 0, 1, len(kids) - 1, len(kids), math.MaxInt} {
			askFrom(t, p, n, api.ErrPlan)
		}
		for device := 99; device < 105; device++ {
			if k, ok := plan.Kid(p, 0, device); k != 0 || ok {
				t.Errorf("%s: Kid(%s, 0, %d) = %d, %v", what, told(p), device, k, ok)
			}
		}
	}
}

// P13.3: numbers that are no node's, ahead of most below 0.
func TestFromNoNode(t *testing.T) {
	p := graph([]int{2}, []int{1, 2}, []int{2}, nil)
	for _, n := range []int{math.MinInt, -1, 3, 4, math.MaxInt} {
		askFrom(t, p, n, api.ErrRange)
	}
	for _, n := range []int{math.MinInt, -1, 0, 1, math.MaxInt} {
		askFrom(t, api.Plan{}, n, api.ErrRange)
		askFrom(t, api.Plan{Roots: []int{0, 1}}, n, api.ErrRange)
	}
	for n := range 3 {
		for _, most := range []int{math.MinInt, -2, -1} {
			askNoPaths(t, p, n, most, api.ErrArg)
		}
	}
	askNoPaths(t, p, 0, 0, api.ErrMany)
	askPaths(t, p, 0, "[[100 101 102] [100 102]]")
}

// Rule 4: what is handed in is neither changed nor kept.
func TestNothingIsChangedOrKept(t *testing.T) {
	x, v := diamond(t), invariant(t, "a . (d|b) ()?", 3, "a b c d")
	topoText, _ := topo.Print(x)
	was := fmt.Sprint(x, v)
	p := made(t, x, v)
	want := told(p)
	paths, _ := plan.Paths(p, p.Roots[0], 99)
	devices, _ := plan.Devices(p, p.Roots[0])
	plan.Kid(p, 0, 1)
	plan.Check(x, p)
	plan.Same(p, p)
	same(t, "the arguments", fmt.Sprint(x, v), was)
	same(t, "the plan", told(p), want)
	told1 := fmt.Sprint(paths, devices)
	for i := range p.Nodes {
		for j := range p.Nodes[i].Kids {
			p.Nodes[i].Kids[j] = -9
		}
		p.Nodes[i] = node(9, 9, 9, false)
	}
	p.Roots[0] = 77
	same(t, "the paths and devices", fmt.Sprint(paths, devices), told1)
	same(t, "the plan, made anew", told(made(t, x, v)), want)
	v.Ingress[0], v.Path.Kids[0].Name, x.Devices[0].Name, x.Links[0] = "z", "z", "z", api.Link{}
	x, _, _, _ = topo.Parse(topoText)
	same(t, "the plan of the same", told(made(t, x, invariant(t, "a . (d|b) ()?", 3, "a b c d"))), want)

	// Kids that do not rise stay as they are.
	p = graph([]int{1, 2, 3}, []int{3, 1, 2, 1}, []int{3, 2}, nil, nil)
	want = told(p)
	paths, _ = plan.Paths(p, 0, 99)
	same(t, "how many", len(paths), 8)
	devices, _ = plan.Devices(p, 0)
	same(t, "how many", len(devices), 4)
	same(t, "the plan", told(p), want)
}

// Rule 4: an answer is one's own, and no two of its lists share memory.
func TestAnswersAreNewMemory(t *testing.T) {
	x, v := diamond(t), invariant(t, ".*", 3, "a b c d")
	p, q := made(t, x, v), made(t, x, v)
	want := told(p)
	for i, n := range p.Nodes {
		before := told(p)
		_ = append(n.Kids, -5, -5, -5)
		same(t, "the plan behind an append", told(p), before)
		for j := range n.Kids {
			p.Nodes[i].Kids[j] = -7
			same(t, "how many have changed", strings.Count(told(p), "-7"), j+1)
		}
		for j := range n.Kids {
			p.Nodes[i].Kids[j] = q.Nodes[i].Kids[j]
		}
	}
	_ = append(p.Roots, -5, -5)
	same(t, "the plan", told(p), want)
	same(t, "the other plan", told(q), want)

	l, _ := plan.Paths(p, 0, 999)
	m, _ := plan.Paths(p, 0, 999)
	rows := fmt.Sprint(l)
	for _, row := range l {
		_ = append(row, -5, -5, -5)
	}
	same(t, "the rows behind appends", fmt.Sprint(l), rows)
	for i, row := range l {
		kept := slices.Clone(row)
		for j := range row {
			row[j] = -7
		}
		same(t, "how many have changed", strings.Count(fmt.Sprint(l), "-7"), len(row))
		copy(l[i], kept)
	}
	same(t, "the rows", fmt.Sprint(l), rows)
	l[0][0] = -8
	same(t, "the other rows", fmt.Sprint(m), rows)
	d, _ := plan.Devices(p, 0)
	d[0] = -8
	askDevices(t, p, 0, 0, 1, 2, 3)
	same(t, "the plan", told(p), want)
}
