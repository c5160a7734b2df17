package tasks_test

import (
	"fmt"
	"math/rand"
	"slices"
	"strings"
	"testing"

	"milestone/api"
	"milestone/invar"
	"milestone/plan"
	"milestone/regex"
	"milestone/tasks"
	"milestone/topo"
)

func same(t *testing.T, what string, got, want any) {
	t.Helper()
	if got != want {
		t.Errorf("%s = %v, want %v", what, got, want)
	}
}

// network has devices and links between them, both told with blanks between: a device with its classes behind a colon and commas between, a link as two names with a minus between. Ports are made as they are needed.
func network(t *testing.T, devices, links string) api.Topo {
	t.Helper()
	lines := []string{"width 2"}
	ports := map[string]int{}
	var tail []string
	port := func(name string) string {
		ports[name]++
		return fmt.Sprintf("%s p%02d", name, ports[name]-1)
	}
	for _, l := range strings.Fields(links) {
		a, b, _ := strings.Cut(l, "-")
		tail = append(tail, "link "+port(a)+" -> "+port(b))
	}
	for _, d := range strings.Fields(devices) {
		name, classes, has := strings.Cut(d, ":")
		s := "device " + name
		if has {
			s += " class " + classes
		}
		for i := range ports[name] {
			s += []string{" port ", ","}[min(i, 1)] + fmt.Sprintf("p%02d", i)
		}
		lines = append(lines, s)
	}
	x, line, col, e := topo.Parse(strings.Join(append(lines, tail...), "\n"))
	if e != api.OK {
		t.Fatalf("Parse: %v at %d, %d of %q", e, line, col, append(lines, tail...))
	}
	return x
}

// inRow is the network of the document's example.
func inRow(t *testing.T) api.Topo {
	t.Helper()
	return network(t, "a b c", "a-b b-c")
}

// diamond is a next to b and c, these next to d.
func diamond(t *testing.T) api.Topo {
	t.Helper()
	return network(t, "a b c d", "a-b a-c b-d c-d")
}

// greatest has as many devices as may be, each next to itself.
func greatest(t *testing.T) api.Topo {
	t.Helper()
	var devices, links []string
	for i := range api.MaxDevices {
		name := fmt.Sprintf("d%03d", i)
		devices, links = append(devices, name), append(links, name+"-"+name)
	}
	return network(t, strings.Join(devices, " "), strings.Join(links, " "))
}

// invariant is one of a path, so many hops, and ingresses that are told with blanks between.
func invariant(t *testing.T, path string, hops int, ingress string) api.Invariant {
	t.Helper()
	r, line, col, e := regex.Parse(path)
	if e != api.OK {
		t.Fatalf("Parse(%.80q): %v at %d, %d", path, e, line, col)
	}
	return api.Invariant{Name: "v", Packets: "xx", Ingress: strings.Fields(ingress), Hops: hops, Compare: api.Equal, Count: 1, Path: r}
}

// allOf are the names of all devices.
func allOf(x api.Topo) string {
	var l []string
	for _, d := range x.Devices {
		l = append(l, d.Name)
	}
	return strings.Join(l, " ")
}

func node(level, device, state int, accept bool, kids ...int) api.PlanNode {
	return api.PlanNode{Level: level, Device: device, State: state, Accept: accept, Kids: kids}
}

func planOf(roots []int, nodes ...api.PlanNode) api.Plan {
	return api.Plan{Nodes: nodes, Roots: roots}
}

// example is the plan of chapter 13's example, made by hand.
func example() api.Plan {
	return planOf([]int{0}, node(1, 0, 1, false, 1), node(2, 1, 1, false, 2), node(3, 2, 2, true))
}

func spot(invariant, node int) api.Spot { return api.Spot{Invariant: invariant, Node: node} }

// job is one of a spot: Kids, From and To are the lists, in this order; those that are left out are empty.
func job(invariant, node int, root bool, lists ...[]int) api.Job {
	j := api.Job{Spot: spot(invariant, node), Root: root}
	for i, l := range lists {
		*[]*[]int{&j.Kids, &j.From, &j.To}[i] = l
	}
	return j
}

func taskOf(device int, jobs ...api.Job) api.Task { return api.Task{Device: device, Jobs: jobs} }

// full is a task that may be, with something of all.
func full() api.Task {
	return taskOf(2,
		job(0, 0, true, []int{3, 5}, []int{4, 2}),
		job(0, 3, false, []int{5, 8, 9}, []int{2, 0, 7}, []int{1, 2}),
		job(0, 5, false, nil, nil, []int{2, 6}),
		job(1, 0, false, []int{5}, []int{4}, []int{0, 3, 255}),
		job(7, 2, true, []int{5}, []int{4}),
		job(7, 4, false, []int{5, 6}, []int{4, 1}, []int{4}))
}

// told is all that stands in tasks, as a text that can be compared: of each its Device, then of each job Invariant, Node, `*` if it is a Root, Kids, From and To.
func told(l ...api.Task) string {
	var b strings.Builder
	for i, x := range l {
		fmt.Fprintf(&b, "%s%d:", []string{"", "\n"}[min(i, 1)], x.Device)
		for _, j := range x.Jobs {
			fmt.Fprintf(&b, " %d.%d%s%v%v%v", j.Invariant, j.Node, map[bool]string{true: "*"}[j.Root], j.Kids, j.From, j.To)
		}
	}
	return b.String()
}

// copyOf shares no memory with a task.
func copyOf(x api.Task) api.Task {
	x.Jobs = slices.Clone(x.Jobs)
	for i := range x.Jobs {
		j := &x.Jobs[i]
		j.Kids, j.From, j.To = slices.Clone(j.Kids), slices.Clone(j.From), slices.Clone(j.To)
	}
	return x
}

// split is the tasks of plans that may be.
func split(t *testing.T, x api.Topo, l ...api.Plan) []api.Task {
	t.Helper()
	got, number, e := tasks.Split(x, l...)
	if e != api.OK || number != 0 {
		t.Fatalf("Split(%v): %d, %v", l, number, e)
	}
	return got
}

// made is the tasks and plans of invariants that have some.
func made(t *testing.T, x api.Topo, l ...api.Invariant) ([]api.Task, []api.Plan) {
	t.Helper()
	got, plans, number, e := tasks.Make(x, l...)
	if e != api.OK || number != 0 {
		t.Fatalf("Make(%v): %d, %v", l, number, e)
	}
	return got, plans
}

// askSplit asks for tasks, as told says them.
func askSplit(t *testing.T, x api.Topo, l []api.Plan, want ...string) {
	t.Helper()
	if got := told(split(t, x, l...)...); got != strings.Join(want, "\n") {
		t.Errorf("Split(%v) =\n%s, want\n%s", l, got, strings.Join(want, "\n"))
	}
}

// askNoSplit asks for an error, and that there is nothing beside it but the number.
func askNoSplit(t *testing.T, what string, x api.Topo, l []api.Plan, number int, want api.Errno) {
	t.Helper()
	if got, n, e := tasks.Split(x, l...); len(got) != 0 || n != number || e != want {
		t.Errorf("%s: Split = %.80s, %d, %v, want %d, %v", what, told(got...), n, e, number, want)
	}
}

// askNoMake asks for an error, and that there is nothing beside it but the number.
func askNoMake(t *testing.T, what string, x api.Topo, l []api.Invariant, number int, want api.Errno) {
	t.Helper()
	if got, plans, n, e := tasks.Make(x, l...); len(got) != 0 || len(plans) != 0 || n != number || e != want {
		t.Errorf("%s: Make = %.80s, %d plans, %d, %v, want %d, %v", what, told(got...), len(plans), n, e, number, want)
	}
}

// askTask asks that a task may be.
func askTask(t *testing.T, what string, x api.Task) {
	t.Helper()
	if e := tasks.Check(x); e != api.OK {
		t.Errorf("%s: Check(%.200s) = %v", what, told(x), e)
	}
}

// askNoTask asks that a task may not be, of all calls that tell it, and that there is nothing beside that.
func askNoTask(t *testing.T, what string, x api.Task) {
	t.Helper()
	if e := tasks.Check(x); e != api.ErrTask {
		t.Errorf("%s: Check(%.200s) = %v", what, told(x), e)
	}
	numbers := []int{-1, 0, 1, 2, x.Device, api.MaxDevices}
	spots := []api.Spot{spot(0, 0), spot(0, 3), spot(-1, -1)}
	for _, j := range x.Jobs {
		numbers = append(append(numbers, j.From...), j.To...)
		spots = append(spots, j.Spot)
	}
	for _, n := range numbers[:min(len(numbers), 30)] {
		if l, e := tasks.Hears(x, n); len(l) != 0 || e != api.ErrTask {
			t.Errorf("%s: Hears(%.200s, %d) = %v, %v", what, told(x), n, l, e)
		}
		if l, e := tasks.Tells(x, n); len(l) != 0 || e != api.ErrTask {
			t.Errorf("%s: Tells(%.200s, %d) = %v, %v", what, told(x), n, l, e)
		}
	}
	for _, s := range spots[:min(len(spots), 30)] {
		if j, ok, e := tasks.Job(x, s); told(taskOf(0, j)) != told(taskOf(0, api.Job{})) || ok || e != api.ErrTask {
			t.Errorf("%s: Job(%.200s, %v) = %v, %v, %v", what, told(x), s, j, ok, e)
		}
	}
	if l, e := tasks.Near(x); len(l) != 0 || e != api.ErrTask {
		t.Errorf("%s: Near(%.200s) = %v, %v", what, told(x), l, e)
	}
	if l, e := tasks.Backwards(x); len(l) != 0 || e != api.ErrTask {
		t.Errorf("%s: Backwards(%.200s) = %v, %v", what, told(x), l, e)
	}
}

func askHears(t *testing.T, x api.Task, from int, want ...api.Spot) {
	t.Helper()
	if l, e := tasks.Hears(x, from); !slices.Equal(l, want) || e != api.OK {
		t.Errorf("Hears(%.200s, %d) = %v, %v, want %v", told(x), from, l, e, want)
	}
}

func askTells(t *testing.T, x api.Task, to int, want ...api.Spot) {
	t.Helper()
	if l, e := tasks.Tells(x, to); !slices.Equal(l, want) || e != api.OK {
		t.Errorf("Tells(%.200s, %d) = %v, %v, want %v", told(x), to, l, e, want)
	}
}

func askNear(t *testing.T, x api.Task, want ...int) {
	t.Helper()
	if l, e := tasks.Near(x); !slices.Equal(l, want) || e != api.OK {
		t.Errorf("Near(%.200s) = %v, %v, want %v", told(x), l, e, want)
	}
}

func askJob(t *testing.T, x api.Task, want api.Job) {
	t.Helper()
	if j, ok, e := tasks.Job(x, want.Spot); told(taskOf(0, j)) != told(taskOf(0, want)) || !ok || e != api.OK {
		t.Errorf("Job(%.200s, %v) = %v, %v, %v, want %v", told(x), want.Spot, j, ok, e, want)
	}
}

func askNoJob(t *testing.T, x api.Task, s api.Spot) {
	t.Helper()
	if j, ok, e := tasks.Job(x, s); told(taskOf(0, j)) != told(taskOf(0, api.Job{})) || ok || e != api.OK {
		t.Errorf("Job(%.200s, %v) = %v, %v, %v", told(x), s, j, ok, e)
	}
}

func askBackwards(t *testing.T, x api.Task, want ...int) {
	t.Helper()
	if l, e := tasks.Backwards(x); !slices.Equal(l, want) || e != api.OK {
		t.Errorf("Backwards(%.200s) = %v, %v, want %v", told(x), l, e, want)
	}
}

// askSame asks Same both ways round.
func askSame(t *testing.T, what string, a, b api.Task, want bool) {
	t.Helper()
	if tasks.Same(a, b) != want || tasks.Same(b, a) != want {
		t.Errorf("%s: Same(%.200s, %.200s) is not %v", what, told(a), told(b), want)
	}
}

// someNetwork is one of few devices and some links, some of a device with itself, some twice.
func someNetwork(t *testing.T, r *rand.Rand) api.Topo {
	t.Helper()
	names := []string{"a", "b", "c", "d", "e"}[:1+r.Intn(5)]
	var devices, links []string
	for _, name := range names {
		devices = append(devices, name+[]string{"", ":x", ":y", ":x,y"}[r.Intn(4)])
	}
	for range r.Intn(2 * len(names)) {
		links = append(links, names[r.Intn(len(names))]+"-"+names[r.Intn(len(names))])
	}
	return network(t, strings.Join(devices, " "), strings.Join(links, " "))
}

// somePath is the text of an expression over the devices of a network, at most so deep.
func somePath(r *rand.Rand, x api.Topo, deep int) string {
	if deep == 0 || r.Intn(6) == 0 {
		l := append(strings.Fields(allOf(x)), "$x", "$y", ".", ".", "()")
		return l[r.Intn(len(l))]
	}
	a, b := somePath(r, x, deep-1), somePath(r, x, deep-1)
	return []string{"(" + a + " " + b + ")", "(" + a + "|" + b + ")", "(" + a + ")*", "(" + a + ")+", "(" + a + ")?", a + " .* " + b}[r.Intn(6)]
}

// someInvariants are at most so many that a network may have.
func someInvariants(t *testing.T, r *rand.Rand, x api.Topo, most int) []api.Invariant {
	t.Helper()
	var l []api.Invariant
	for range r.Intn(most + 1) {
		var ingress []string
		for _, d := range x.Devices {
			if r.Intn(2) == 0 {
				ingress = append(ingress, d.Name)
			}
		}
		if len(ingress) == 0 {
			ingress = []string{x.Devices[r.Intn(len(x.Devices))].Name}
		}
		l = append(l, invariant(t, somePath(r, x, 1+r.Intn(4)), r.Intn(7), strings.Join(ingress, " ")))
	}
	return l
}

// somePlan is one that may be over a network, but that an invariant need not have: places without a way to them, Roots in any order.
func somePlan(t *testing.T, r *rand.Rand, x api.Topo) api.Plan {
	t.Helper()
	var p api.Plan
	for level := 1 + r.Intn(2); level < 6; level++ {
		for device := range x.Devices {
			for state := range r.Intn(4) {
				p.Nodes = append(p.Nodes, node(level, device, state, true))
			}
		}
	}
	for n := range p.Nodes {
		last := -1
		for k := range p.Nodes {
			a, b := &p.Nodes[n], p.Nodes[k]
			if b.Level == a.Level+1 && b.Device != last && slices.Contains(topo.Near(x, a.Device), b.Device) && r.Intn(2) == 0 {
				a.Kids, last = append(a.Kids, k), b.Device
			}
		}
		if len(p.Nodes[n].Kids) > 0 {
			p.Nodes[n].Accept = r.Intn(2) == 0
		}
	}
	for range r.Intn(5) {
		if root := r.Intn(len(p.Nodes)+1) - 1; root < 0 || p.Nodes[root].Level == 1 {
			p.Roots = append(p.Roots, root)
		}
	}
	if e := plan.Check(x, p); e != api.OK {
		t.Fatalf("Check(%v) = %v", p, e)
	}
	return p
}

// somePlans are a few, made by invariants or not.
func somePlans(t *testing.T, r *rand.Rand, x api.Topo) []api.Plan {
	t.Helper()
	if r.Intn(2) == 0 {
		_, plans := made(t, x, someInvariants(t, r, x, 4)...)
		return plans
	}
	var l []api.Plan
	for range r.Intn(4) {
		l = append(l, somePlan(t, r, x))
	}
	return l
}

// textOf are all arguments of a call, as a text.
func textOf(t *testing.T, x api.Topo, l []api.Invariant, plans []api.Plan) string {
	t.Helper()
	s := fmt.Sprint(x, plans)
	for _, v := range l {
		line, e := invar.Line(v)
		if e != api.OK {
			t.Fatal(e)
		}
		s += "\n" + line
	}
	return s
}
