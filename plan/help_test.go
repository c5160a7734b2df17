package plan_test

import (
	"fmt"
	"math/rand"
	"slices"
	"strings"
	"testing"

	"milestone/api"
	"milestone/plan"
	"milestone/regex"
	"milestone/topo"
)

func same(t *testing.T, what string, got, want any) {
	t.Helper()
	if got != want {
		t.Errorf("%s = %v, want %v", what, got, want)
	}
}

// network has devices and links between them, both told with blanks between: a device with its classes behind a colon and commas between, a link as two names with a minus between. Ports are made as they are needed.
func network(t *testing.T, devices, links string) api.Topo {
	t.Helper()
	lines := []string{"width 2"}
	ports := map[string]int{}
	var tail []string
	port := func(name string) string {
		ports[name]++
		return fmt.Sprintf("%s p%02d", name, ports[name]-1)
	}
	for _, l := range strings.Fields(links) {
		a, b, _ := strings.Cut(l, "-")
		tail = append(tail, "link "+port(a)+" -> "+port(b))
	}
	for _, d := range strings.Fields(devices) {
		name, classes, has := strings.Cut(d, ":")
		s := "device " + name
		if has {
			s += " class " + classes
		}
		for i := range ports[name] {
			s += []string{" port ", ","}[min(i, 1)] + fmt.Sprintf("p%02d", i)
		}
		lines = append(lines, s)
	}
	x, line, col, e := topo.Parse(strings.Join(append(lines, tail...), "\n"))
	if e != api.OK {
		t.Fatalf("Parse: %v at %d, %d of %q", e, line, col, append(lines, tail...))
	}
	return x
}

// inRow is the network of the document's example.
func inRow(t *testing.T) api.Topo {
	t.Helper()
	return network(t, "a b c", "a-b b-c")
}

// diamond is a next to b and c, these next to d.
func diamond(t *testing.T) api.Topo {
	t.Helper()
	return network(t, "a b:mid c:mid d", "a-b a-c b-d c-d")
}

// loops are so many devices, each next to itself, and behind them others, with these links, all told as to network.
func loops(t *testing.T, n int, devices, links string) api.Topo {
	t.Helper()
	var l []string
	for i := range n {
		name := fmt.Sprintf("d%03d", i)
		l = append(l, name+":loop")
		links += " " + name + "-" + name
	}
	return network(t, strings.Join(l, " ")+" "+devices, links)
}

// parsed is the expression of a text that is one.
func parsed(t *testing.T, s string) api.Regex {
	t.Helper()
	r, line, col, e := regex.Parse(s)
	if e != api.OK {
		t.Fatalf("Parse(%.80q): %v at %d, %d", s, e, line, col)
	}
	return r
}

// invariant is one of a path, so many hops, and ingresses that are told with blanks between.
func invariant(t *testing.T, path string, hops int, ingress string) api.Invariant {
	t.Helper()
	return api.Invariant{Name: "v", Packets: "xx", Ingress: strings.Fields(ingress), Hops: hops, Compare: api.Equal, Count: 1, Path: parsed(t, path)}
}

// allOf are the names of all devices.
func allOf(x api.Topo) string {
	var l []string
	for _, d := range x.Devices {
		l = append(l, d.Name)
	}
	return strings.Join(l, " ")
}

func node(level, device, state int, accept bool, kids ...int) api.PlanNode {
	return api.PlanNode{Level: level, Device: device, State: state, Accept: accept, Kids: kids}
}

func planOf(roots []int, nodes ...api.PlanNode) api.Plan {
	return api.Plan{Nodes: nodes, Roots: roots}
}

// graph is a plan of nodes with these Kids, each at a device of its own: its number and 100; those told accept.
func graph(accept []int, kids ...[]int) api.Plan {
	var p api.Plan
	for i, l := range kids {
		p.Nodes = append(p.Nodes, node(1, 100+i, 0, slices.Contains(accept, i), l...))
	}
	return p
}

// told is all that stands in a plan, as a text that can be compared: of each node Level, Device, State, `*` if it has Accept, and its Kids; then the roots.
func told(p api.Plan) string {
	var b strings.Builder
	for _, n := range p.Nodes {
		fmt.Fprintf(&b, "%d.%d.%d%s%v ", n.Level, n.Device, n.State, map[bool]string{true: "*"}[n.Accept], n.Kids)
	}
	return fmt.Sprint(b.String(), "| ", p.Roots)
}

func isZero(p api.Plan) bool { return len(p.Nodes) == 0 && len(p.Roots) == 0 }

// copyOf shares no memory with a plan.
func copyOf(p api.Plan) api.Plan {
	out := api.Plan{Nodes: slices.Clone(p.Nodes), Roots: slices.Clone(p.Roots)}
	for i := range out.Nodes {
		out.Nodes[i].Kids = slices.Clone(out.Nodes[i].Kids)
	}
	return out
}

// made is the plan of an invariant that has one.
func made(t *testing.T, x api.Topo, v api.Invariant) api.Plan {
	t.Helper()
	p, e := plan.Make(x, v)
	if e != api.OK {
		text, _ := regex.Print(v.Path)
		t.Fatalf("Make(%.80s, %d hops): %v", text, v.Hops, e)
	}
	return p
}

// askMake asks for a plan, as told says it.
func askMake(t *testing.T, x api.Topo, path string, hops int, ingress, want string) {
	t.Helper()
	if got := told(made(t, x, invariant(t, path, hops, ingress))); got != want {
		t.Errorf("Make(%s, %d hops, from %s) = %s, want %s", path, hops, ingress, got, want)
	}
}

// askNoMake asks for an error, and that there is nothing beside it.
func askNoMake(t *testing.T, what string, x api.Topo, v api.Invariant, want api.Errno) {
	t.Helper()
	if p, e := plan.Make(x, v); e != want || !isZero(p) {
		t.Errorf("%s: Make = %.80s, %v, want %v", what, told(p), e, want)
	}
}

func askCheck(t *testing.T, what string, x api.Topo, p api.Plan, want api.Errno) {
	t.Helper()
	if e := plan.Check(x, p); e != want {
		t.Errorf("%s: Check(%.200s) = %v, want %v", what, told(p), e, want)
	}
}

func askDevices(t *testing.T, p api.Plan, n int, want ...int) {
	t.Helper()
	if l, e := plan.Devices(p, n); !slices.Equal(l, want) || e != api.OK {
		t.Errorf("Devices(%.200s, %d) = %v, %v, want %v", told(p), n, l, e, want)
	}
}

// askPaths asks for the paths from a node, as Sprint says them, with most just as many, one more, and one fewer.
func askPaths(t *testing.T, p api.Plan, n int, want string) {
	t.Helper()
	many := strings.Count(want, "[") - 1
	for _, most := range []int{many, many + 1, 1 << 40, 1<<63 - 1} {
		if l, e := plan.Paths(p, n, most); fmt.Sprint(l) != want || e != api.OK {
			t.Errorf("Paths(%.200s, %d, %d) = %.200s, %v, want %.200s", told(p), n, most, fmt.Sprint(l), e, want)
		}
	}
	if many > 0 {
		askNoPaths(t, p, n, many-1, api.ErrMany)
	}
}

// askNoPaths asks for an error, and that there is nothing beside it.
func askNoPaths(t *testing.T, p api.Plan, n, most int, want api.Errno) {
	t.Helper()
	if l, e := plan.Paths(p, n, most); len(l) != 0 || e != want {
		t.Errorf("Paths(%.200s, %d, %d) = %.200s, %v, want %v", told(p), n, most, fmt.Sprint(l), e, want)
	}
}

func askKid(t *testing.T, p api.Plan, n, device, want int, there bool) {
	t.Helper()
	if k, ok := plan.Kid(p, n, device); k != want || ok != there {
		t.Errorf("Kid(%.200s, %d, %d) = %d, %v, want %d, %v", told(p), n, device, k, ok, want, there)
	}
}

// askFrom asks for an error of Devices and Paths, and that Kid tells none.
func askFrom(t *testing.T, p api.Plan, n int, want api.Errno) {
	t.Helper()
	if l, e := plan.Devices(p, n); len(l) != 0 || e != want {
		t.Errorf("Devices(%.200s, %d) = %v, %v, want %v", told(p), n, l, e, want)
	}
	for _, most := range []int{-1 << 63, -1, 0, 9} {
		askNoPaths(t, p, n, most, want)
	}
	for device := range 4 {
		askKid(t, p, n, device, 0, false)
	}
}

// askSame asks Same both ways round.
func askSame(t *testing.T, what string, a, b api.Plan, want bool) {
	t.Helper()
	if plan.Same(a, b) != want || plan.Same(b, a) != want {
		t.Errorf("%s: Same(%.200s, %.200s) is not %v", what, told(a), told(b), want)
	}
}

// someNetwork is one of few devices and some links, some of a device with itself, some twice.
func someNetwork(t *testing.T, r *rand.Rand) api.Topo {
	t.Helper()
	names := []string{"a", "b", "c", "d", "e"}[:1+r.Intn(5)]
	var devices, links []string
	for _, name := range names {
		devices = append(devices, name+[]string{"", ":x", ":y", ":x,y"}[r.Intn(4)])
	}
	for range r.Intn(2 * len(names)) {
		links = append(links, names[r.Intn(len(names))]+"-"+names[r.Intn(len(names))])
	}
	return network(t, strings.Join(devices, " "), strings.Join(links, " "))
}

// somePath is the text of an expression over the devices of someNetwork's networks, at most so deep.
func somePath(r *rand.Rand, x api.Topo, deep int) string {
	if deep == 0 || r.Intn(6) == 0 {
		l := append(strings.Fields(allOf(x)), "$x", "$y", ".", ".", "()")
		return l[r.Intn(len(l))]
	}
	a, b := somePath(r, x, deep-1), somePath(r, x, deep-1)
	return []string{"(" + a + " " + b + ")", "(" + a + "|" + b + ")", "(" + a + ")*", "(" + a + ")+", "(" + a + ")?", a + " .* " + b}[r.Intn(6)]
}

// someInvariant is one that a network may have.
func someInvariant(t *testing.T, r *rand.Rand, x api.Topo, hops int) api.Invariant {
	t.Helper()
	var ingress []string
	for _, d := range x.Devices {
		if r.Intn(2) == 0 {
			ingress = append(ingress, d.Name)
		}
	}
	if len(ingress) == 0 {
		ingress = []string{x.Devices[r.Intn(len(x.Devices))].Name}
	}
	return invariant(t, somePath(r, x, 1+r.Intn(4)), r.Intn(hops+1), strings.Join(ingress, " "))
}
