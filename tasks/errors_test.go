package tasks_test

import (
	"fmt"
	"math"
	"slices"
	"strings"
	"testing"

	"milestone/api"
	"milestone/plan"
	"milestone/tasks"
)

// noTopos are topologies that may not be.
func noTopos(t *testing.T) map[string]api.Topo {
	l := map[string]api.Topo{"nothing": {}, "a width alone": {Width: 2}}
	for what, change := range map[string]func(x *api.Topo){
		"no width":            func(x *api.Topo) { x.Width = 0 },
		"a width too great":   func(x *api.Topo) { x.Width = api.MaxBits + 1 },
		"devices that fall":   func(x *api.Topo) { x.Devices[0].Name = "z" },
		"devices alike":       func(x *api.Topo) { x.Devices[1].Name = "a" },
		"no name":             func(x *api.Topo) { x.Devices[2].Name = "" },
		"no port's name":      func(x *api.Topo) { x.Devices[0].Ports[0] = "p p" },
		"no class":            func(x *api.Topo) { x.Devices[0].Classes = []string{""} },
		"a link to nobody":    func(x *api.Topo) { x.Links[1].B = 3 },
		"a link from nobody":  func(x *api.Topo) { x.Links[0].A = -1 },
		"a link to no port":   func(x *api.Topo) { x.Links[1].PortB = "q" },
		"links that fall":     func(x *api.Topo) { x.Links[0], x.Links[1] = x.Links[1], x.Links[0] },
		"a link twice":        func(x *api.Topo) { x.Links = append(x.Links, x.Links[1]) },
		"too many of devices": func(x *api.Topo) { x.Devices = make([]api.Device, api.MaxDevices+1) },
	} {
		x := inRow(t)
		change(&x)
		l[what] = x
	}
	return l
}

// noPlans are plans that may not be over inRow.
func noPlans() map[string]api.Plan {
	l := map[string]api.Plan{}
	for what, change := range map[string]func(p *api.Plan){
		"too many nodes":       func(p *api.Plan) { p.Nodes = make([]api.PlanNode, api.MaxPlan+1) },
		"nodes that fall":      func(p *api.Plan) { p.Nodes[0], p.Nodes[2] = p.Nodes[2], p.Nodes[0] },
		"nodes alike":          func(p *api.Plan) { p.Nodes = append(p.Nodes, p.Nodes[2]) },
		"a Level below 1":      func(p *api.Plan) { *p = planOf(nil, node(0, 0, 0, true)) },
		"a Level above 65":     func(p *api.Plan) { *p = planOf(nil, node(66, 0, 0, true)) },
		"a Device below 0":     func(p *api.Plan) { p.Nodes[0].Device = -1 },
		"no such Device":       func(p *api.Plan) { p.Nodes[2].Device = 3 },
		"a Device far off":     func(p *api.Plan) { p.Nodes[2].Device = math.MaxInt },
		"a State below 0":      func(p *api.Plan) { p.Nodes[1].State = -1 },
		"Kids that fall":       func(p *api.Plan) { p.Nodes[1].Kids = []int{3, 2}; p.Nodes = append(p.Nodes, node(3, 2, 9, true)) },
		"Kids alike":           func(p *api.Plan) { p.Nodes[0].Kids = []int{1, 1} },
		"a Kid below 0":        func(p *api.Plan) { p.Nodes[0].Kids = []int{-1} },
		"a Kid of no node":     func(p *api.Plan) { p.Nodes[2].Kids = []int{3} },
		"a Kid of its Level":   func(p *api.Plan) { p.Nodes[1].Kids = []int{1} },
		"a Kid two Levels off": func(p *api.Plan) { p.Nodes[0].Kids = []int{2} },
		"a Kid ahead":          func(p *api.Plan) { p.Nodes[1].Kids = []int{0} },
		"a Kid that is far":    func(p *api.Plan) { p.Nodes[1].Device = 2 },
		"Kids at one Device":   func(p *api.Plan) { p.Nodes[1].Kids = []int{2, 3}; p.Nodes = append(p.Nodes, node(3, 2, 9, true)) },
		"no Accept and no Kid": func(p *api.Plan) { p.Nodes[2].Accept = false },
		"a Root below -1":      func(p *api.Plan) { p.Roots[0] = -2 },
		"a Root of no node":    func(p *api.Plan) { p.Roots[0] = 3 },
		"a Root of Level 2":    func(p *api.Plan) { p.Roots = append(p.Roots, 1) },
	} {
		p := example()
		change(&p)
		l[what] = p
	}
	return l
}

// endless is a path expression that is its own Kid.
func endless() api.Regex {
	r := api.Regex{Op: api.RStar, Kids: make([]api.Regex, 1)}
	r.Kids[0] = r
	return r
}

// deepPath is any number of any devices, said so deep.
func deepPath(deep int) api.Regex {
	r := api.Regex{Op: api.RAny}
	for range deep - 1 {
		r = api.Regex{Op: api.RStar, Kids: []api.Regex{r}}
	}
	return r
}

// noInvariant is one that inRow may not have, and plan.Make's error.
type noInvariant struct {
	change func(v *api.Invariant)
	want   api.Errno
}

func noInvariants(t *testing.T) map[string]noInvariant {
	return map[string]noInvariant{
		"no Name":              {func(v *api.Invariant) { v.Name = "" }, api.ErrInvariant},
		"no Packets":           {func(v *api.Invariant) { v.Packets = "" }, api.ErrInvariant},
		"no Ingress":           {func(v *api.Invariant) { v.Ingress = nil }, api.ErrInvariant},
		"Ingress that falls":   {func(v *api.Invariant) { v.Ingress = []string{"b", "a"} }, api.ErrInvariant},
		"65 hops":              {func(v *api.Invariant) { v.Hops = api.MaxHops + 1 }, api.ErrInvariant},
		"hops below 0":         {func(v *api.Invariant) { v.Hops = -1 }, api.ErrInvariant},
		"no Compare":           {func(v *api.Invariant) { v.Compare = 4 }, api.ErrInvariant},
		"a Count too great":    {func(v *api.Invariant) { v.Count = api.MaxCount + 1 }, api.ErrInvariant},
		"no Path":              {func(v *api.Invariant) { v.Path = api.Regex{} }, api.ErrRegex},
		"an endless Path":      {func(v *api.Invariant) { v.Path = endless() }, api.ErrMany},
		"a deep Path":          {func(v *api.Invariant) { v.Path = deepPath(api.MaxDeep + 1) }, api.ErrDeep},
		"another width":        {func(v *api.Invariant) { v.Packets = "xxx" }, api.ErrWidth},
		"an ingress of nobody": {func(v *api.Invariant) { v.Ingress = []string{"d"} }, api.ErrUnknown},
		"a Path of nobody":     {func(v *api.Invariant) { v.Path = invariant(t, "a d c", 1, "a").Path }, api.ErrUnknown},
		"too many sets":        {func(v *api.Invariant) { v.Path = invariant(t, ".* a ........", 1, "a").Path }, api.ErrMany},
		"all is wrong":         {func(v *api.Invariant) { *v = api.Invariant{} }, api.ErrInvariant},
	}
}

// P14.1: topo.Check's error with 0 is the first one, whatever else is at fault.
func TestOverNoTopology(t *testing.T) {
	good, bad := invariant(t, "a .* c", 3, "a"), api.Invariant{Path: endless()}
	wrong := planOf([]int{7}, node(0, 0, 0, false))
	for what, x := range noTopos(t) {
		for _, l := range [][]api.Plan{nil, {}, {example()}, {wrong}, {example(), wrong}, make([]api.Plan, api.MaxInvariants+1), {{}}} {
			askNoSplit(t, what, x, l, 0, api.ErrTopo)
		}
		for _, l := range [][]api.Invariant{nil, {}, {good}, {bad}, {good, bad}, make([]api.Invariant, api.MaxInvariants+1)} {
			askNoMake(t, what, x, l, 0, api.ErrTopo)
		}
	}
}

// P14.1: ErrMany with 0 is the next one, ahead of those of a plan or an invariant.
func TestTooManyPlans(t *testing.T) {
	x := inRow(t)
	plans, l := make([]api.Plan, api.MaxInvariants+1), make([]api.Invariant, api.MaxInvariants+1)
	for i := range plans {
		plans[i], l[i] = example(), invariant(t, "a .* c", 3, "a")
	}
	for _, at := range []int{0, 5, api.MaxInvariants} {
		plans[at].Roots, l[at].Name = []int{77}, ""
		askNoSplit(t, "one too many, and one that may not be", x, plans, 0, api.ErrMany)
		askNoMake(t, "one too many, and one that may not be", x, l, 0, api.ErrMany)
	}
	// The first ones alone: those that may not be are told.
	askNoSplit(t, "as many as may be", x, plans[:api.MaxInvariants], 0, api.ErrPlan)
	askNoSplit(t, "as many as may be", x, plans[1:], 4, api.ErrPlan)
	askNoMake(t, "as many as may be", x, l[1:], 4, api.ErrInvariant)
	askNoSplit(t, "the last one", x, plans[6:], api.MaxInvariants-6, api.ErrPlan)
	askNoMake(t, "the last one", x, l[6:], api.MaxInvariants-6, api.ErrInvariant)
}

// P14.1: plan.Check's error with the number of the first plan that has one.
func TestSplitOfNoPlan(t *testing.T) {
	x := inRow(t)
	for what, p := range noPlans() {
		same(t, what, plan.Check(x, p), api.ErrPlan)
		askNoSplit(t, what, x, []api.Plan{p}, 0, api.ErrPlan)
		askNoSplit(t, what+", behind others", x, []api.Plan{example(), {}, p}, 2, api.ErrPlan)
		askNoSplit(t, what+", between others", x, []api.Plan{example(), p, example()}, 1, api.ErrPlan)
		askNoSplit(t, what+", and another one", x, []api.Plan{{}, p, example(), p, planOf([]int{5})}, 1, api.ErrPlan)
	}
	// What may be over one network may not be over another one.
	askNoSplit(t, "too far", network(t, "a b c", "a-b a-c"), []api.Plan{{}, example()}, 1, api.ErrPlan)
	askNoSplit(t, "no such device", network(t, "a b", "a-b"), []api.Plan{example()}, 0, api.ErrPlan)
	askNoSplit(t, "not next to itself", x, []api.Plan{planOf([]int{0}, node(1, 0, 0, false, 1), node(2, 0, 0, true))}, 0, api.ErrPlan)
}

// P14.1: plan.Make's error with the number of the first invariant that has one, whatever the later ones have.
func TestMakeOfNoInvariant(t *testing.T) {
	x := inRow(t)
	good := invariant(t, "a .* c", 3, "a")
	wide := invariant(t, "a .* c", 3, "a")
	wide.Packets = "x"
	for what, no := range noInvariants(t) {
		v := invariant(t, "a .* c", 3, "a")
		no.change(&v)
		_, e := plan.Make(x, v)
		same(t, what, e, no.want)
		askNoMake(t, what, x, []api.Invariant{v}, 0, no.want)
		askNoMake(t, what+", behind others", x, []api.Invariant{good, good, good, v}, 3, no.want)
		askNoMake(t, what+", between others", x, []api.Invariant{good, v, good}, 1, no.want)
		askNoMake(t, what+", and another error", x, []api.Invariant{good, good, v, {}, wide}, 2, no.want)
		askNoMake(t, what+", and another error ahead", x, []api.Invariant{good, wide, v}, 1, api.ErrWidth)
	}
	// Names that are alike are nobody's fault.
	l, _ := made(t, x, good, good)
	same(t, "the tasks", told(l...), "0: 0.0*[1][1][] 1.0*[1][1][]\n1: 0.1[2][2][0] 1.1[2][2][0]\n2: 0.2[][][1] 1.2[][][1]")
}

// P14.1: an invariant with more places than a plan may have.
func TestMakeOfTooManyPlaces(t *testing.T) {
	x := greatest(t)
	v := invariant(t, ".*", 64, allOf(x))
	askNoMake(t, "65 levels of 256", x, []api.Invariant{v}, 0, api.ErrMany)
	askNoMake(t, "65 levels of 256", x, []api.Invariant{invariant(t, "d000", 1, "d000"), v, {}}, 1, api.ErrMany)
	askNoMake(t, "none, ahead of 65 levels of 256", x, []api.Invariant{invariant(t, "d000", 1, "d000"), {}, v}, 1, api.ErrInvariant)
}

// Ahead of P14.2: each reason alone is one for which a task may not be, of all calls.
func TestTasksThatMayNotBe(t *testing.T) {
	askTask(t, "what the others are made of", full())
	for what, change := range map[string]func(x *api.Task){
		"a Device below 0":              func(x *api.Task) { x.Device = -1 },
		"a Device too great":            func(x *api.Task) { x.Device = 256 },
		"the least Device":              func(x *api.Task) { x.Device = math.MinInt },
		"the greatest Device":           func(x *api.Task) { x.Device = math.MaxInt },
		"an Invariant below 0":          func(x *api.Task) { x.Jobs[0].Invariant = -1 },
		"the least Invariant":           func(x *api.Task) { x.Jobs[0].Invariant = math.MinInt },
		"an Invariant too great":        func(x *api.Task) { x.Jobs[5].Invariant = 64 },
		"the greatest Invariant":        func(x *api.Task) { x.Jobs[5].Invariant = math.MaxInt },
		"a Node below 0":                func(x *api.Task) { x.Jobs[3].Node = -1 },
		"the least Node":                func(x *api.Task) { x.Jobs[0].Node = math.MinInt },
		"a Node too great":              func(x *api.Task) { x.Jobs[2].Node = 16384 },
		"the greatest Node":             func(x *api.Task) { x.Jobs[2].Node = math.MaxInt },
		"Invariants that fall":          func(x *api.Task) { x.Jobs[3].Invariant = 8 },
		"Invariants that fall, early":   func(x *api.Task) { x.Jobs[0].Invariant = 1 },
		"Nodes that fall":               func(x *api.Task) { x.Jobs[0].Node, x.Jobs[0].Kids, x.Jobs[0].From = 4, nil, nil },
		"Nodes that fall at the end":    func(x *api.Task) { x.Jobs[5].Node = 1 },
		"Nodes alike":                   func(x *api.Task) { x.Jobs[1].Node = 0 },
		"Nodes alike at the end":        func(x *api.Task) { x.Jobs[5].Node = 2 },
		"a job twice":                   func(x *api.Task) { x.Jobs = append(x.Jobs, x.Jobs[5]) },
		"jobs turned":                   func(x *api.Task) { slices.Reverse(x.Jobs) },
		"a zero job at the end":         func(x *api.Task) { x.Jobs = append(x.Jobs, api.Job{}) },
		"a Kid that is its own":         func(x *api.Task) { x.Jobs[1].Kids[0] = 3 },
		"a Kid below its own":           func(x *api.Task) { x.Jobs[5].Kids[0] = 3 },
		"a Kid below 0":                 func(x *api.Task) { x.Jobs[3].Kids[0] = -1 },
		"the least Kid":                 func(x *api.Task) { x.Jobs[3].Kids[0] = math.MinInt },
		"a Kid too great":               func(x *api.Task) { x.Jobs[5].Kids[1] = 16384 },
		"the greatest Kid":              func(x *api.Task) { x.Jobs[0].Kids[1] = math.MaxInt },
		"Kids that fall":                func(x *api.Task) { slices.Reverse(x.Jobs[0].Kids) },
		"the last Kids fall":            func(x *api.Task) { x.Jobs[1].Kids[2] = 7 },
		"Kids alike":                    func(x *api.Task) { x.Jobs[1].Kids[2] = 8 },
		"the last Kid below its own":    func(x *api.Task) { x.Jobs[1].Kids[2] = 2 },
		"one Kid more than From":        func(x *api.Task) { x.Jobs[4].Kids = append(x.Jobs[4].Kids, 9) },
		"one Kid fewer than From":       func(x *api.Task) { x.Jobs[0].Kids = x.Jobs[0].Kids[:1] },
		"no Kids, and From":             func(x *api.Task) { x.Jobs[5].Kids = nil },
		"no From, and Kids":             func(x *api.Task) { x.Jobs[0].From = nil },
		"From where there is no Kid":    func(x *api.Task) { x.Jobs[2].From = []int{1} },
		"From alike":                    func(x *api.Task) { x.Jobs[0].From = []int{4, 4} },
		"From alike, not side by side":  func(x *api.Task) { x.Jobs[1].From = []int{2, 0, 2} },
		"From alike, the last device":   func(x *api.Task) { x.Jobs[1].From = []int{7, 255, 255} },
		"From below 0":                  func(x *api.Task) { x.Jobs[0].From[1] = -1 },
		"the least From":                func(x *api.Task) { x.Jobs[0].From[0] = math.MinInt },
		"From too great":                func(x *api.Task) { x.Jobs[5].From[1] = 256 },
		"the greatest From":             func(x *api.Task) { x.Jobs[4].From[0] = math.MaxInt },
		"To below 0":                    func(x *api.Task) { x.Jobs[1].To[0] = -1 },
		"the least To":                  func(x *api.Task) { x.Jobs[5].To[0] = math.MinInt },
		"To too great":                  func(x *api.Task) { x.Jobs[3].To[2] = 256 },
		"the greatest To":               func(x *api.Task) { x.Jobs[2].To[1] = math.MaxInt },
		"To that falls":                 func(x *api.Task) { slices.Reverse(x.Jobs[1].To) },
		"To that falls at the end":      func(x *api.Task) { x.Jobs[3].To[2] = 2 },
		"To alike":                      func(x *api.Task) { x.Jobs[3].To[1] = 0 },
		"To alike at the end":           func(x *api.Task) { x.Jobs[2].To[1] = 2 },
		"all Kids from one device":      func(x *api.Task) { x.Jobs[1].From = []int{0, 0, 0} },
		"more of From than all devices": func(x *api.Task) { *x = crowded(257) },
	} {
		x := full()
		change(&x)
		askNoTask(t, what, x)
	}
	askTask(t, "as many of From as devices", crowded(256))
}

// crowded has a job of so many Kids, each from the next device.
func crowded(many int) api.Task {
	j := job(0, 0, false)
	for i := range many {
		j.Kids, j.From = append(j.Kids, i+1), append(j.From, i%256)
	}
	return taskOf(0, j)
}

// Rule 4: what is handed in is not changed.
func TestNothingIsChanged(t *testing.T) {
	x := diamond(t)
	l := []api.Invariant{invariant(t, "a .* d", 3, "a"), invariant(t, ".*", 2, "a b d")}
	_, plans := made(t, x, l...)
	was := textOf(t, x, l, plans)
	made(t, x, l...)
	split(t, x, plans...)
	askNoMake(t, "one that may not be", x, append(slices.Clone(l), api.Invariant{}), 2, api.ErrInvariant)
	askNoSplit(t, "one that may not be", x, append(slices.Clone(plans), planOf([]int{9})), 2, api.ErrPlan)
	same(t, "the arguments", textOf(t, x, l, plans), was)

	y := full()
	askAll(y)
	same(t, "the task", told(y), told(full()))
	// One that may not be stays as it is as well.
	slices.Reverse(y.Jobs)
	slices.Reverse(y.Jobs[4].To)
	want := told(y)
	askAll(y)
	same(t, "the task", told(y), want)
}

// askAll asks a task all calls that there are.
func askAll(x api.Task) {
	tasks.Check(x)
	for n := -1; n < 8; n++ {
		tasks.Hears(x, n)
		tasks.Tells(x, n)
		tasks.Job(x, spot(0, n))
	}
	tasks.Near(x)
	tasks.Backwards(x)
	tasks.Same(x, x)
}

// Rule 4: what is handed in is not kept: tasks stay as they are when plans are changed, and plans when tasks are.
func TestNothingIsKept(t *testing.T) {
	x := diamond(t)
	v := invariant(t, ".*", 3, "a d")
	got, plans := made(t, x, v)
	want, wantPlans := told(got...), fmt.Sprint(plans)
	own := split(t, x, plans...)
	same(t, "Split's", told(own...), want)

	spoilTasks(got)
	same(t, "the plans", fmt.Sprint(plans), wantPlans)
	same(t, "Split's", told(own...), want)
	got, again := made(t, x, v)
	spoilPlans(plans)
	same(t, "the tasks", told(got...), want)
	same(t, "Split's", told(own...), want)
	same(t, "the other plans", fmt.Sprint(again), wantPlans)
	v.Ingress[0], v.Path.Kids[0].Op, x.Devices[0].Name, x.Links[0] = "z", 77, "z", api.Link{}
	same(t, "the tasks", told(got...), want)
	same(t, "the plans", fmt.Sprint(again), wantPlans)
	got, _ = made(t, diamond(t), invariant(t, ".*", 3, "a d"))
	same(t, "the tasks, made anew", told(got...), want)

	y := full()
	j, _, _ := tasks.Job(y, spot(0, 3))
	hears, _ := tasks.Hears(y, 4)
	tells, _ := tasks.Tells(y, 2)
	near, _ := tasks.Near(y)
	order, _ := tasks.Backwards(y)
	was := fmt.Sprint(j, hears, tells, near, order)
	spoilTasks([]api.Task{y})
	same(t, "what was told", fmt.Sprint(j, hears, tells, near, order), was)
}

func spoilTasks(l []api.Task) {
	for i := range l {
		for k := range l[i].Jobs {
			j := &l[i].Jobs[k]
			for _, m := range [][]int{j.Kids, j.From, j.To} {
				for n := range m {
					m[n] = -7
				}
			}
			*j = job(-7, -7, !j.Root)
		}
		l[i] = taskOf(-7)
	}
}

func spoilPlans(l []api.Plan) {
	for i := range l {
		for _, n := range l[i].Nodes {
			for k := range n.Kids {
				n.Kids[k] = -7
			}
		}
		for k := range l[i].Nodes {
			l[i].Nodes[k] = node(-7, -7, -7, false)
		}
		for k := range l[i].Roots {
			l[i].Roots[k] = -7
		}
	}
}

// Rule 4: no two lists of an answer share memory, also not behind their ends.
func TestAnswersAreNewMemory(t *testing.T) {
	x := network(t, "a b c d", "a-a a-b a-c b-c b-d c-d")
	got, plans := made(t, x, invariant(t, ".*", 3, "a b c d"), invariant(t, "a .* d", 4, "a b"))
	askOwnMemory(t, got)
	spoilPlans(plans)
	own := split(t, x, example2(), example2())
	askOwnMemory(t, own)

	y := full()
	j, _, _ := tasks.Job(y, spot(0, 3))
	for _, l := range [][]int{j.Kids, j.From, j.To} {
		_ = append(l, -7, -7, -7)
		for k := range l {
			l[k] = -7
		}
	}
	same(t, "the task", told(y), told(full()))
	askJob(t, y, full().Jobs[1])
	for range 2 {
		hears, _ := tasks.Hears(y, 4)
		tells, _ := tasks.Tells(y, 2)
		near, _ := tasks.Near(y)
		order, _ := tasks.Backwards(y)
		same(t, "what is told", fmt.Sprint(hears, tells, near, order), "[{0 3} {1 5} {7 5}] [{0 3} {0 5}] [0 1 3 4 6 7 255] [2 1 0 3 5 4]")
		hears[0], tells[0], near[0], order[0] = spot(-7, -7), spot(-7, -7), -7, -7
	}
	same(t, "the task", told(y), told(full()))
}

// example2 is a plan over four devices in which several nodes wait for one.
func example2() api.Plan {
	return planOf([]int{0, 1}, node(1, 0, 0, false, 2, 3), node(1, 3, 0, false, 2, 3), node(2, 1, 0, true), node(2, 2, 0, true))
}

// askOwnMemory changes each list of tasks, and looks whether another one has changed.
func askOwnMemory(t *testing.T, l []api.Task) {
	t.Helper()
	want := told(l...)
	for i := range l {
		_ = append(l[i].Jobs, job(-7, -7, true))
		for k := range l[i].Jobs {
			j := l[i].Jobs[k]
			for _, m := range [][]int{j.Kids, j.From, j.To} {
				_ = append(m, -7, -7, -7)
				same(t, "the tasks behind an append", told(l...), want)
				own := slices.Clone(m)
				for n := range m {
					m[n] = -7
				}
				same(t, "how many have changed", strings.Count(told(l...), "-7"), len(m))
				copy(m, own)
			}
		}
	}
	same(t, "the tasks", told(l...), want)
}
