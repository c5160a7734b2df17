package tasks_test

import (
	"fmt"
	"math"
	"slices"
	"testing"

	"milestone/api"
	"milestone/plan"
	"milestone/tasks"
)

// P14.1: the document's example, made by hand and by its invariant.
func TestTheExample(t *testing.T) {
	x := inRow(t)
	want := []string{"0: 0.0*[1][1][]", "1: 0.1[2][2][0]", "2: 0.2[][][1]"}
	askSplit(t, x, []api.Plan{example()}, want...)
	l, plans := made(t, x, invariant(t, "a .* c", 3, "a"))
	same(t, "how many plans", len(plans), 1)
	same(t, "the plan is the example's", plan.Same(plans[0], example()), true)
	same(t, "the tasks", told(l...), told(split(t, x, example())...))
	// The compare, the count and the packets play no part.
	v := invariant(t, "a .* c", 3, "a")
	v.Name, v.Packets, v.Compare, v.Count = "w", "1x", api.Most, 62
	other, _ := made(t, x, v)
	same(t, "the tasks", told(other...), told(l...))
}

// P14.1: Make's plans are those of plan.Make, in order, and its tasks are theirs.
func TestMakeOfSeveral(t *testing.T) {
	x := inRow(t)
	l := []api.Invariant{invariant(t, "a .* c", 2, "a"), invariant(t, ".*", 1, "b c"), invariant(t, "$none", 3, "a b"), invariant(t, "c b", 9, "c")}
	got, plans := made(t, x, l...)
	same(t, "how many plans", len(plans), 4)
	for i, v := range l {
		p, _ := plan.Make(x, v)
		same(t, fmt.Sprint("plan ", i), plan.Same(plans[i], p), true)
	}
	want := "0: 0.0*[1][1][] 1.2[][][1]\n" +
		"1: 0.1[2][2][0] 1.0*[2 4][0 2][] 1.3[][][2] 3.1[][][2]\n" +
		"2: 0.2[][][1] 1.1*[3][1][] 1.4[][][1] 3.0*[1][1][]"
	same(t, "the tasks", told(got...), want)
	same(t, "the tasks of the plans", told(split(t, x, plans...)...), want)
	// The same ones in another order have other numbers.
	got, _ = made(t, x, l[3], l[0])
	same(t, "the tasks", told(got...), "0: 1.0*[1][1][]\n1: 0.1[][][2] 1.1[2][2][0]\n2: 0.0*[1][1][] 1.2[][][1]")
}

// P14.1: without plans, and with plans without nodes, there are tasks without jobs.
func TestSplitOfNothing(t *testing.T) {
	x := inRow(t)
	want := []string{"0:", "1:", "2:"}
	askSplit(t, x, nil, want...)
	askSplit(t, x, []api.Plan{}, want...)
	askSplit(t, x, []api.Plan{{}}, want...)
	askSplit(t, x, []api.Plan{{}, {Nodes: []api.PlanNode{}, Roots: []int{}}, {Roots: []int{-1, -1}}}, want...)
	l, plans := made(t, x)
	same(t, "the tasks", told(l...), "0:\n1:\n2:")
	same(t, "how many plans", len(plans), 0)
	l, plans = made(t, x, []api.Invariant{}...)
	same(t, "the tasks", told(l...), "0:\n1:\n2:")
	same(t, "how many plans", len(plans), 0)
	l, plans = made(t, x, invariant(t, "$none", 4, "a c"))
	same(t, "the tasks", told(l...), "0:\n1:\n2:")
	same(t, "the plans", fmt.Sprint(plans), "[{[] [-1 -1]}]")
	askSplit(t, network(t, "a", ""), nil, "0:")
}

// P14.1: a device that counts nothing has a task nevertheless, be it the first one, one between, or the last one.
func TestSplitWithIdleDevices(t *testing.T) {
	x := network(t, "a b c d e", "b-d")
	askSplit(t, x, []api.Plan{planOf([]int{0}, node(1, 1, 0, false, 1), node(2, 3, 0, true))},
		"0:", "1: 0.0*[1][3][]", "2:", "3: 0.1[][][1]", "4:")
	// A plan without nodes has its number as well.
	lone := planOf(nil, node(1, 4, 0, true))
	askSplit(t, x, []api.Plan{{}, lone, {}, lone}, "0:", "1:", "2:", "3:", "4: 1.0[][][] 3.0[][][]")
}

// P14.1: To has the Devices of all nodes that have it among their Kids, rising, each once.
func TestSplitOfKidsOfSeveral(t *testing.T) {
	x := diamond(t)
	l, _ := made(t, x, invariant(t, "a . d", 2, "a"))
	same(t, "the tasks", told(l...), "0: 0.0*[1 2][1 2][]\n1: 0.1[3][3][0]\n2: 0.2[3][3][0]\n3: 0.3[][][1 2]")
	// Several of one Device, and those between which another node stands.
	p := planOf([]int{1}, node(1, 0, 0, false, 6), node(1, 0, 5, false, 6), node(1, 1, 0, true), node(1, 3, 0, false, 6),
		node(1, 3, 1, false, 7), node(1, 3, 2, false, 6), node(2, 2, 0, true), node(2, 2, 1, true))
	askSplit(t, x, []api.Plan{p}, "0: 0.0[6][2][] 0.1*[6][2][]", "1: 0.2[][][]",
		"2: 0.6[][][0 3] 0.7[][][3]", "3: 0.3[6][2][] 0.4[7][2][] 0.5[6][2][]")
	// What waits for a node of one plan does not wait for that of another one.
	q := planOf([]int{0}, node(1, 3, 0, false, 1), node(2, 1, 0, true))
	askSplit(t, x, []api.Plan{q, p, q}, "0: 1.0[6][2][] 1.1*[6][2][]", "1: 0.1[][][3] 1.2[][][] 2.1[][][3]",
		"2: 1.6[][][0 3] 1.7[][][3]", "3: 0.0*[1][1][] 1.3[6][2][] 1.4[7][2][] 1.5[6][2][] 2.0*[1][1][]")
}

// P14.1: Root is whether it is among the plan's Roots: neither its Level nor where it stands among them, nor how often.
func TestSplitOfRoots(t *testing.T) {
	x := inRow(t)
	nodes := []api.PlanNode{node(1, 0, 0, true), node(1, 1, 0, true), node(1, 1, 1, true), node(1, 2, 0, true)}
	for _, ask := range []struct {
		roots []int
		want  string
	}{
		{nil, "0: 0.0[][][]\n1: 0.1[][][] 0.2[][][]\n2: 0.3[][][]"},
		{[]int{-1, -1}, "0: 0.0[][][]\n1: 0.1[][][] 0.2[][][]\n2: 0.3[][][]"},
		{[]int{0}, "0: 0.0*[][][]\n1: 0.1[][][] 0.2[][][]\n2: 0.3[][][]"},
		{[]int{3, -1, 2, 3}, "0: 0.0[][][]\n1: 0.1[][][] 0.2*[][][]\n2: 0.3*[][][]"},
		{[]int{3, 2, 1, 0, 0, 0}, "0: 0.0*[][][]\n1: 0.1*[][][] 0.2*[][][]\n2: 0.3*[][][]"},
	} {
		same(t, fmt.Sprint("the tasks with roots ", ask.roots), told(split(t, x, planOf(ask.roots, nodes...))...), ask.want)
	}
	// A node of level 1 that leads on is no root, if it is none; one that is below is none, if one above it is.
	askSplit(t, x, []api.Plan{planOf([]int{-1}, node(1, 0, 0, false, 1), node(2, 1, 0, true))}, "0: 0.0[1][1][]", "1: 0.1[][][0]", "2:")
	// The roots of one plan are none of another one's.
	askSplit(t, x, []api.Plan{planOf([]int{0}, nodes[0]), planOf(nil, nodes[0]), planOf([]int{0}, nodes[0])},
		"0: 0.0*[][][] 1.0[][][] 2.0*[][][]", "1:", "2:")
}

// P14.1: more roots than nodes, as many as one likes.
func TestSplitOfVeryManyRoots(t *testing.T) {
	x := inRow(t)
	var p api.Plan
	for state := range api.MaxPlan {
		p.Nodes = append(p.Nodes, node(1, 1, state, true))
	}
	p.Roots = make([]int, 1<<20)
	for i := range p.Roots {
		p.Roots[i] = 2 * (i % (api.MaxPlan / 2))
	}
	l := split(t, x, p)
	same(t, "how many", len(l[1].Jobs), api.MaxPlan)
	for i, j := range l[1].Jobs {
		if j.Root != (i%2 == 0) {
			t.Fatalf("%d is a root: %v", i, j.Root)
		}
	}
}

// P14.1, P14.2: a link of a device with itself: it hears from itself and tells itself, and is not near.
func TestALinkWithItself(t *testing.T) {
	x := network(t, "a b", "a-a a-b")
	l, _ := made(t, x, invariant(t, "a+ b?", 2, "a"))
	same(t, "the tasks", told(l...), "0: 0.0*[1 2][0 1][] 0.1[3 4][0 1][0] 0.3[][][0]\n1: 0.2[][][0] 0.4[][][0]")
	askHears(t, l[0], 0, spot(0, 1), spot(0, 3))
	askTells(t, l[0], 0, spot(0, 1), spot(0, 3))
	askHears(t, l[0], 1, spot(0, 2), spot(0, 4))
	askTells(t, l[1], 0, spot(0, 2), spot(0, 4))
	askTells(t, l[0], 1)
	askNear(t, l[0], 1)
	askNear(t, l[1], 0)
	askBackwards(t, l[0], 2, 1, 0)
	l = split(t, network(t, "a", "a-a"), planOf([]int{0}, node(1, 0, 0, false, 1), node(2, 0, 0, true)))
	same(t, "the tasks", told(l...), "0: 0.0*[1][0][] 0.1[][][0]")
	askNear(t, l[0])
}

// P14.1: at MaxInvariants all is as below it; one more is too many.
func TestAsManyPlansAsMayBe(t *testing.T) {
	x := inRow(t)
	plans, l := make([]api.Plan, api.MaxInvariants), make([]api.Invariant, api.MaxInvariants)
	for i := range plans {
		plans[i], l[i] = example(), invariant(t, "a .* c", 3, "a")
	}
	got, told1 := made(t, x, l...)
	same(t, "how many plans", len(told1), api.MaxInvariants)
	same(t, "Make's are Split's", told(got...), told(split(t, x, plans...)...))
	for device, y := range got {
		same(t, "how many jobs", len(y.Jobs), api.MaxInvariants)
		for i, j := range y.Jobs {
			same(t, "a job's spot", j.Spot, spot(i, device))
		}
		askTask(t, "of many plans", y)
	}
	askNoSplit(t, "one more plan", x, append(plans, example()), 0, api.ErrMany)
	askNoMake(t, "one more invariant", x, append(l, l[0]), 0, api.ErrMany)
	askNoSplit(t, "many more", x, make([]api.Plan, 1<<16), 0, api.ErrMany)
}

// P14.1: a network and plans as great as may be.
func TestAsGreatAsMayBe(t *testing.T) {
	x := greatest(t)
	v := invariant(t, ".*", 63, allOf(x))
	got, plans := made(t, x, v, invariant(t, "d000", 1, "d000"), v)
	same(t, "how many nodes", len(plans[2].Nodes), api.MaxPlan)
	same(t, "how many tasks", len(got), api.MaxDevices)
	for device, y := range got {
		askTask(t, "a great one", y)
		same(t, "Device", y.Device, device)
		same(t, "how many jobs", len(y.Jobs), 128+map[bool]int{true: 1}[device == 0])
		same(t, "the last node", y.Jobs[len(y.Jobs)-1].Spot, spot(2, api.MaxPlan-256+device))
		order, e := tasks.Backwards(y)
		same(t, "no error", e, api.OK)
		same(t, "the first one", order[0], 63)
		same(t, "the last one", order[len(order)-1], len(y.Jobs)-64)
	}
	all := make([]api.Plan, api.MaxInvariants)
	for i := range all {
		all[i] = plans[0]
	}
	same(t, "how many jobs", len(split(t, x, all...)[255].Jobs), 64*64)
}

// P14.2: what a device hears from another one, of a task made by hand: by Invariant, then Node, each once.
func TestHears(t *testing.T) {
	x := full()
	askHears(t, x, 4, spot(0, 3), spot(1, 5), spot(7, 5))
	askHears(t, x, 2, spot(0, 5))
	askHears(t, x, 0, spot(0, 8))
	askHears(t, x, 7, spot(0, 9))
	askHears(t, x, 1, spot(7, 6))
	for _, from := range []int{3, 5, 6, 8, 255, 256, -1, math.MinInt, math.MaxInt} {
		askHears(t, x, from)
	}
	// A job's Kids may be above those of the next one.
	askHears(t, taskOf(0, job(0, 0, false, []int{9}, []int{4}), job(0, 1, false, []int{5}, []int{4}), job(0, 2, false, []int{7}, []int{4}),
		job(0, 3, false, []int{9}, []int{4})), 4, spot(0, 5), spot(0, 7), spot(0, 9))
	// The same node of two invariants is two; the same spot may come from two devices.
	x = taskOf(0, job(3, 0, false, []int{1}, []int{4}), job(3, 1, false, []int{2}, []int{4}), job(5, 0, false, []int{1, 2}, []int{6, 4}),
		job(5, 1, false, []int{2}, []int{6}))
	askHears(t, x, 4, spot(3, 1), spot(3, 2), spot(5, 2))
	askHears(t, x, 6, spot(5, 1), spot(5, 2))
	askHears(t, api.Task{}, 0)
	askHears(t, taskOf(9), 9)
}

// P14.2: what a device tells another one: the spots of its jobs that have it among To, in order.
func TestTells(t *testing.T) {
	x := full()
	askTells(t, x, 2, spot(0, 3), spot(0, 5))
	askTells(t, x, 1, spot(0, 3))
	askTells(t, x, 6, spot(0, 5))
	askTells(t, x, 4, spot(7, 4))
	for _, to := range []int{0, 3, 255} {
		askTells(t, x, to, spot(1, 0))
	}
	for _, to := range []int{5, 7, 254, 256, -1, math.MinInt, math.MaxInt} {
		askTells(t, x, to)
	}
	x = taskOf(0, job(0, 7, false, nil, nil, []int{1, 2}), job(2, 3, true, nil, nil, []int{1}), job(2, 4, false, nil, nil, []int{0, 1, 2}))
	askTells(t, x, 1, spot(0, 7), spot(2, 3), spot(2, 4))
	askTells(t, x, 2, spot(0, 7), spot(2, 4))
	askTells(t, x, 0, spot(2, 4))
	askTells(t, api.Task{}, 0)
}

// P14.2: all devices of any From or To but its own, rising, each once.
func TestNear(t *testing.T) {
	askNear(t, full(), 0, 1, 3, 4, 6, 7, 255)
	askNear(t, api.Task{})
	askNear(t, taskOf(255))
	askNear(t, taskOf(1, job(0, 0, true)))
	askNear(t, taskOf(1, job(0, 0, false, []int{1}, []int{1}, []int{1})))
	askNear(t, taskOf(0, job(0, 0, false, []int{1}, []int{1}, []int{0})), 1)
	askNear(t, taskOf(0, job(0, 0, false, []int{1, 2}, []int{9, 3}, []int{5})), 3, 5, 9)
	askNear(t, taskOf(255, job(0, 0, false, nil, nil, []int{0, 254, 255}), job(1, 0, false, []int{1, 2}, []int{254, 7})), 0, 7, 254)
	var from, kids []int
	for i := range api.MaxDevices {
		from, kids = append(from, 255-i), append(kids, i+1)
	}
	l, e := tasks.Near(taskOf(100, job(0, 0, false, kids, from)))
	want := slices.Delete(slices.Sorted(slices.Values(from)), 100, 101)
	if !slices.Equal(l, want) || e != api.OK {
		t.Errorf("Near of all = %v, %v", l, e)
	}
}

// P14.3: the job of a spot, and that there is none of another one.
func TestJob(t *testing.T) {
	x := full()
	for _, j := range full().Jobs {
		askJob(t, x, j)
	}
	for _, s := range []api.Spot{spot(0, 1), spot(0, 2), spot(0, 4), spot(0, 6), spot(1, 2), spot(1, 3), spot(1, 5), spot(2, 0), spot(7, 0), spot(7, 5), spot(8, 0),
		spot(5, 0), spot(63, 16383), spot(64, 0), spot(0, 16384), spot(-1, 0), spot(0, -1), spot(math.MinInt, math.MaxInt), spot(math.MaxInt, math.MinInt)} {
		askNoJob(t, x, s)
	}
	askNoJob(t, api.Task{}, spot(0, 0))
	askNoJob(t, taskOf(5), spot(5, 5))
	askJob(t, taskOf(5, job(0, 0, false)), job(0, 0, false))
}

// P14.3: by Invariant, then by Node falling.
func TestBackwards(t *testing.T) {
	askBackwards(t, full(), 2, 1, 0, 3, 5, 4)
	askBackwards(t, api.Task{})
	askBackwards(t, taskOf(7))
	askBackwards(t, taskOf(7, job(3, 3, true)), 0)
	askBackwards(t, taskOf(7, job(3, 3, true), job(3, 4, false)), 1, 0)
	askBackwards(t, taskOf(7, job(3, 4, true), job(4, 3, false)), 0, 1)
	askBackwards(t, taskOf(7, job(0, 1, false), job(0, 2, false), job(0, 3, false), job(62, 0, false), job(63, 1, false), job(63, 16383, false)), 2, 1, 0, 3, 5, 4)
}

// Ahead of P14.2: what may be, though no plan has it.
func TestCheckWhatMayBe(t *testing.T) {
	for what, x := range map[string]api.Task{
		"nothing":                     {},
		"an empty list":               taskOf(0, []api.Job{}...),
		"the last device":             taskOf(255),
		"something of all":            full(),
		"the last spot":               taskOf(3, job(63, 16383, true)),
		"the first spot":              taskOf(3, job(0, 0, false)),
		"the last Kid":                taskOf(3, job(0, 16382, false, []int{16383}, []int{0})),
		"the first Kid":               taskOf(3, job(0, 0, false, []int{1}, []int{255})),
		"From that falls":             taskOf(3, job(0, 0, false, []int{1, 2, 3}, []int{255, 3, 0})),
		"To of all":                   taskOf(3, job(0, 0, false, nil, nil, []int{0, 1, 2, 3, 254, 255})),
		"a root that is waited for":   taskOf(3, job(0, 0, true, nil, nil, []int{0})),
		"nodes that fall":             taskOf(3, job(0, 9, true), job(1, 8, true), job(2, 7, true)),
		"a Kid from two devices":      taskOf(3, job(0, 0, true, []int{9}, []int{1}), job(0, 1, true, []int{9}, []int{2})),
		"an own job, from another":    taskOf(3, job(0, 0, true, []int{9}, []int{1}), job(0, 9, true)),
		"empty lists":                 taskOf(3, job(0, 0, true, []int{}, []int{}, []int{})),
		"no Kids, and an empty list":  taskOf(3, job(0, 0, true, nil, []int{}, nil)),
		"the same devices in another": taskOf(3, job(0, 0, true, []int{1}, []int{1}, []int{1}), job(0, 1, true, []int{2}, []int{1}, []int{1})),
	} {
		askTask(t, what, x)
	}
	// All devices, and all spots of the last invariant.
	var kids, from, to []int
	for i := range api.MaxDevices {
		kids, from, to = append(kids, 2*i+1), append(from, (i+100)%256), append(to, i)
	}
	askTask(t, "all devices", taskOf(0, job(0, 0, false, kids, from, to)))
	x := taskOf(0)
	for i := range api.MaxPlan {
		x.Jobs = append(x.Jobs, job(63, i, false))
	}
	askTask(t, "all spots", x)
}

// P14.4: each field alone sets two tasks apart, whether they may be or not.
func TestSame(t *testing.T) {
	askSame(t, "alike", full(), full(), true)
	askSame(t, "nothing", api.Task{}, api.Task{}, true)
	askSame(t, "nothing, but a list", api.Task{}, api.Task{Jobs: []api.Job{}}, true)
	askSame(t, "empty lists", taskOf(1, job(0, 0, true)), taskOf(1, job(0, 0, true, []int{}, []int{}, []int{})), true)
	wrong := func() api.Task { return taskOf(-4, job(-1, -2, true, []int{-3, -3}, []int{900}, []int{7, 6, 6})) }
	askSame(t, "alike, though they may not be", wrong(), wrong(), true)
	for what, change := range map[string]func(x *api.Task){
		"Device":            func(x *api.Task) { x.Device++ },
		"Invariant":         func(x *api.Task) { x.Jobs[3].Invariant = 2 },
		"Node":              func(x *api.Task) { x.Jobs[2].Node = 6 },
		"the first Kid":     func(x *api.Task) { x.Jobs[0].Kids[0] = 4 },
		"the last Kid":      func(x *api.Task) { x.Jobs[5].Kids[1] = 7 },
		"one Kid more":      func(x *api.Task) { x.Jobs[2].Kids = []int{6} },
		"one Kid fewer":     func(x *api.Task) { x.Jobs[0].Kids = x.Jobs[0].Kids[:1] },
		"no Kids":           func(x *api.Task) { x.Jobs[3].Kids = nil },
		"the first of From": func(x *api.Task) { x.Jobs[0].From[0] = 5 },
		"the last of From":  func(x *api.Task) { x.Jobs[5].From[1] = 3 },
		"From turned":       func(x *api.Task) { slices.Reverse(x.Jobs[5].From) },
		"one of From more":  func(x *api.Task) { x.Jobs[2].From = []int{6} },
		"one of From fewer": func(x *api.Task) { x.Jobs[0].From = x.Jobs[0].From[:1] },
		"the first of To":   func(x *api.Task) { x.Jobs[1].To[0] = 0 },
		"the last of To":    func(x *api.Task) { x.Jobs[3].To[2] = 254 },
		"one of To more":    func(x *api.Task) { x.Jobs[0].To = []int{0} },
		"one of To fewer":   func(x *api.Task) { x.Jobs[3].To = x.Jobs[3].To[:2] },
		"no To":             func(x *api.Task) { x.Jobs[5].To = nil },
		"a root":            func(x *api.Task) { x.Jobs[0].Root = false },
		"another root":      func(x *api.Task) { x.Jobs[5].Root = true },
		"a job fewer":       func(x *api.Task) { x.Jobs = x.Jobs[:5] },
		"a job more":        func(x *api.Task) { x.Jobs = append(x.Jobs, job(8, 0, false)) },
		"a zero job more":   func(x *api.Task) { x.Jobs = append(x.Jobs, api.Job{}) },
		"jobs turned":       func(x *api.Task) { x.Jobs[1], x.Jobs[2] = x.Jobs[2], x.Jobs[1] },
		"no jobs":           func(x *api.Task) { x.Jobs = nil },
	} {
		x := full()
		change(&x)
		askSame(t, what, full(), x, false)
	}
}
