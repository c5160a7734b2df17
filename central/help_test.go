package central_test

import (
	"fmt"
	"math/rand"
	"slices"
	"strings"
	"testing"

	"milestone/api"
	"milestone/central"
	"milestone/counts"
	"milestone/plan"
	"milestone/regex"
	"milestone/rules"
	"milestone/topo"
)

func same(t *testing.T, what string, got, want any) {
	t.Helper()
	if got != want {
		t.Errorf("%s = %v, want %v", what, got, want)
	}
}

// network has devices and links between ports, both told with blanks between: a device as its name, and its ports behind a colon with commas between; a link as two ports with a minus between, each as a device, a dot and the port's name. Headers have 2 bits.
func network(t *testing.T, devices, links string) api.Topo {
	t.Helper()
	lines := []string{"width 2"}
	for _, d := range strings.Fields(devices) {
		name, ports, has := strings.Cut(d, ":")
		lines = append(lines, "device "+name+map[bool]string{true: " port " + ports}[has])
	}
	for _, l := range strings.Fields(links) {
		a, b, _ := strings.Cut(l, "-")
		lines = append(lines, "link "+strings.Replace(a, ".", " ", 1)+" -> "+strings.Replace(b, ".", " ", 1))
	}
	x, line, col, e := topo.Parse(strings.Join(lines, "\n"))
	if e != api.OK {
		t.Fatalf("Parse: %v at %d, %d of %q", e, line, col, lines)
	}
	return x
}

// inRow is the network of the chapter's example, with a port at b that has no link.
func inRow(t *testing.T) api.Topo {
	t.Helper()
	return network(t, "a:p b:p,q,r c:p", "a.p-b.p b.q-c.p")
}

// mesh has links of all kinds: a twice to b, once to c, b to c, and b with itself; a.s and c.s have none.
func mesh(t *testing.T) api.Topo {
	t.Helper()
	return network(t, "a:p,q,r,s b:p,q,r,t,u c:p,q,s", "a.p-b.p a.q-b.q a.r-c.p b.r-c.q b.t-b.u")
}

// greatest has as many devices, ports and links as may be: each device has links to the 16 ahead of it and the 16 behind it, round a ring.
func greatest(t *testing.T) api.Topo {
	t.Helper()
	x := api.Topo{Width: 2}
	for i := range api.MaxDevices {
		d := api.Device{Name: fmt.Sprintf("d%03d", i)}
		for port := range api.MaxPorts {
			d.Ports = append(d.Ports, fmt.Sprintf("p%02d", port))
		}
		x.Devices = append(x.Devices, d)
	}
	for i := range api.MaxDevices {
		for k := range 16 {
			j := (i + k + 1) % api.MaxDevices
			a, b := api.Link{A: i, PortA: fmt.Sprintf("p%02d", k)}, api.Link{A: j, PortA: fmt.Sprintf("p%02d", 16+k)}
			if a.A > b.A {
				a, b = b, a
			}
			x.Links = append(x.Links, api.Link{A: a.A, PortA: a.PortA, B: b.A, PortB: b.PortA})
		}
	}
	slices.SortFunc(x.Links, func(a, b api.Link) int {
		return strings.Compare(fmt.Sprintf("%03d %s", a.A, a.PortA), fmt.Sprintf("%03d %s", b.A, b.PortA))
	})
	same(t, "how many links", len(x.Links), api.MaxLinks)
	same(t, "the greatest may be", topo.Check(x), api.OK)
	return x
}

// rowsOf are the rules of devices, each told as lines of rules with `;` between; those that are left out have none.
func rowsOf(t *testing.T, x api.Topo, rows ...string) [][]api.Rule {
	t.Helper()
	l := make([][]api.Rule, len(x.Devices))
	for i, row := range rows {
		r, line, col, e := rules.Parse(strings.ReplaceAll(row, ";", "\n"), x.Width)
		if e != api.OK {
			t.Fatalf("Parse(%q): %v at %d, %d", row, e, line, col)
		}
		l[i] = r
	}
	return l
}

// doing are rules by which each device does this with all headers.
func doing(t *testing.T, x api.Topo, actions ...string) [][]api.Rule {
	t.Helper()
	var rows []string
	for _, a := range actions {
		if a != "" {
			a = "rule 1 " + strings.Repeat("x", x.Width) + " " + a
		}
		rows = append(rows, a)
	}
	return rowsOf(t, x, rows...)
}

// invariant is one of a path, so many hops, and ingresses that are told with blanks between.
func invariant(t *testing.T, x api.Topo, path string, hops int, ingress string) api.Invariant {
	t.Helper()
	r, line, col, e := regex.Parse(path)
	if e != api.OK {
		t.Fatalf("Parse(%.80q): %v at %d, %d", path, e, line, col)
	}
	return api.Invariant{Name: "v", Packets: strings.Repeat("x", x.Width), Ingress: strings.Fields(ingress), Hops: hops, Compare: api.Equal, Count: 1, Path: r}
}

// made is the plan of an invariant.
func made(t *testing.T, x api.Topo, path string, hops int, ingress string) api.Plan {
	t.Helper()
	p, e := plan.Make(x, invariant(t, x, path, hops, ingress))
	if e != api.OK {
		t.Fatalf("Make(%.80s, %d hops): %v", path, hops, e)
	}
	return p
}

func node(level, device, state int, accept bool, kids ...int) api.PlanNode {
	return api.PlanNode{Level: level, Device: device, State: state, Accept: accept, Kids: kids}
}

func planOf(roots []int, nodes ...api.PlanNode) api.Plan {
	return api.Plan{Nodes: nodes, Roots: roots}
}

// setOf is the set of elements, bit by bit.
func setOf(l ...int) api.Counts {
	var c api.Counts
	for _, i := range l {
		c |= api.Counts(1) << i
	}
	return c
}

// sets are the counts of places as a text: of each its set, with blanks between.
func sets(bound int, l ...api.Counts) string {
	var texts []string
	for _, c := range l {
		s, e := counts.Text(bound, c)
		if e != api.OK {
			s = fmt.Sprintf("%b: %v", c, e)
		}
		texts = append(texts, s)
	}
	return strings.Join(texts, " ")
}

// counted are the counts of all places, after Count told the same of each.
func counted(t *testing.T, x api.Topo, p api.Plan, fibs [][]api.Rule, header string, bound int) []api.Counts {
	t.Helper()
	l, e := central.Counts(x, p, fibs, header, bound)
	if e != api.OK || len(l) != len(p.Nodes) {
		t.Fatalf("Counts(%v, %s, %d) = %v, %v", fibs, header, bound, l, e)
	}
	for _, n := range []int{0, len(l) / 2, len(l) - 1} {
		if len(l) == 0 {
			break
		}
		if c, e := central.Count(x, p, fibs, n, header, bound); c != l[n] || e != api.OK {
			t.Errorf("Count(%v, %d, %s, %d) = %b, %v, want %b", fibs, n, header, bound, c, e, l[n])
		}
	}
	return l
}

// askCounts asks for the counts of all places, as sets says them.
func askCounts(t *testing.T, what string, x api.Topo, p api.Plan, fibs [][]api.Rule, header string, bound int, want string) {
	t.Helper()
	if got := sets(bound, counted(t, x, p, fibs, header, bound)...); got != want {
		t.Errorf("%s: Counts(%s, %d) = %s, want %s", what, header, bound, got, want)
	}
}

func askVerdict(t *testing.T, what string, x api.Topo, p api.Plan, fibs [][]api.Rule, i int, header string, bound, compare int, want api.Verdict) {
	t.Helper()
	if v, e := central.Verdict(x, p, fibs, i, header, bound, compare); v != want || e != api.OK {
		t.Errorf("%s: Verdict(%d, %s, %d, %d) = %v, %v, want %v", what, i, header, bound, compare, v, e, want)
	}
}

// breaks is the verdict of what is not right.
func breaks(header string, n int) api.Verdict { return api.Verdict{Header: header, Count: n} }

var right = api.Verdict{Right: true}

func askCopies(t *testing.T, what string, x api.Topo, fibs [][]api.Rule, header string, most, want int, path ...int) {
	t.Helper()
	if n, e := central.Copies(x, fibs, header, most, path...); n != want || e != api.OK {
		t.Errorf("%s: Copies(%s, %d, %.60v) = %d, %v, want %d", what, header, most, path, n, e, want)
	}
}

// question is all that the calls are asked of, with what may be: a fault is put into one field.
type question struct {
	x       api.Topo
	p       api.Plan
	fibs    [][]api.Rule
	header  string
	bound   int
	n       int
	i       int
	compare int
	most    int
	path    []int
}

// good is a question that may be.
func good(t *testing.T) question {
	t.Helper()
	x := inRow(t)
	return question{x: x, p: made(t, x, "a .* c", 3, "a c"), fibs: doing(t, x, "all(p)", "any(q,r)", "deliver"), header: "10", bound: 2,
		compare: api.Equal, most: 9, path: []int{0, 1, 2}}
}

// askCounting asks for an error of the calls that are asked of a plan, and that there is nothing beside it.
func askCounting(t *testing.T, what string, q question, want api.Errno) {
	t.Helper()
	if l, e := central.Counts(q.x, q.p, q.fibs, q.header, q.bound); e != want || e != api.OK && len(l) != 0 {
		t.Errorf("%s: Counts = %v, %v, want %v", what, l, e, want)
	}
	askCount(t, what, q, want)
	askNoVerdict(t, what, q, want)
}

func askCount(t *testing.T, what string, q question, want api.Errno) {
	t.Helper()
	if c, e := central.Count(q.x, q.p, q.fibs, q.n, q.header, q.bound); e != want || e != api.OK && c != 0 {
		t.Errorf("%s: Count = %b, %v, want %v", what, c, e, want)
	}
}

func askNoVerdict(t *testing.T, what string, q question, want api.Errno) {
	t.Helper()
	if v, e := central.Verdict(q.x, q.p, q.fibs, q.i, q.header, q.bound, q.compare); e != want || e != api.OK && v != (api.Verdict{}) {
		t.Errorf("%s: Verdict = %v, %v, want %v", what, v, e, want)
	}
}

// askCopying is askCounting of Copies.
func askCopying(t *testing.T, what string, q question, want api.Errno) {
	t.Helper()
	if n, e := central.Copies(q.x, q.fibs, q.header, q.most, q.path...); e != want || e != api.OK && n != 0 {
		t.Errorf("%s: Copies = %d, %v, want %v", what, n, e, want)
	}
}

// askAll asks all calls for an error.
func askAll(t *testing.T, what string, q question, want api.Errno) {
	t.Helper()
	askCounting(t, what, q, want)
	askCopying(t, what, q, want)
}

// someNetwork is one of few devices and some links, some of a device with itself, some side by side; each device has a port s without a link.
func someNetwork(t *testing.T, r *rand.Rand) api.Topo {
	t.Helper()
	names := []string{"a", "b", "c", "d"}[:1+r.Intn(4)]
	var free, devices, links []string
	for _, name := range names {
		devices = append(devices, name+":p,q,r,s,t")
		for _, port := range []string{"p", "q", "r", "t"} {
			free = append(free, name+"."+port)
		}
	}
	r.Shuffle(len(free), func(i, j int) { free[i], free[j] = free[j], free[i] })
	many := len(free) / 2
	if r.Intn(2) == 0 {
		many = r.Intn(many + 1)
	}
	for i := range many {
		links = append(links, free[2*i]+"-"+free[2*i+1])
	}
	return network(t, strings.Join(devices, " "), strings.Join(links, " "))
}

// someRows are a few rules of each device, in any order, each doing one of the kinds; of half of them the last device delivers what meets no other rule, and the others send it somewhere.
func someRows(t *testing.T, r *rand.Rand, x api.Topo, kinds ...string) [][]api.Rule {
	t.Helper()
	sending := slices.DeleteFunc(slices.Clone(kinds), func(kind string) bool { return kind == "drop" || kind == "deliver" })
	lively := r.Intn(2) == 0
	var rows []string
	for device := range x.Devices {
		var row []string
		if lively {
			last := map[bool]string{true: "deliver", false: someAction(r, sending...)}[device == len(x.Devices)-1]
			row = append(row, "rule 0 xx "+last)
		}
		seen := map[string]int{}
		for range r.Intn(map[bool]int{true: 2, false: 5}[lively]) {
			match := []string{"xx", "1x", "0x", "x1", "x0", "10", "11"}[r.Intn(7)]
			key := fmt.Sprint(1+r.Intn(3), " ", match)
			if seen[key]++; seen[key] == 1 {
				row = append(row, "rule "+key+" "+someAction(r, kinds...))
			}
		}
		r.Shuffle(len(row), func(i, j int) { row[i], row[j] = row[j], row[i] })
		rows = append(rows, strings.Join(row, ";"))
	}
	return rowsOf(t, x, rows...)
}

func someAction(r *rand.Rand, kinds ...string) string {
	kind := kinds[r.Intn(len(kinds))]
	if kind != "all" && kind != "any" {
		return kind
	}
	ports := []string{"p", "q", "r", "s", "t", "v"}
	r.Shuffle(len(ports), func(i, j int) { ports[i], ports[j] = ports[j], ports[i] })
	return kind + "(" + strings.Join(ports[:1+r.Intn(len(ports))], ",") + ")"
}

// somePlan is one that may be over a network: made of an invariant, or by hand, with places without a way to them.
func somePlan(t *testing.T, r *rand.Rand, x api.Topo) api.Plan {
	t.Helper()
	if r.Intn(2) == 0 {
		var ingress []string
		for _, d := range x.Devices {
			ingress = append(ingress, d.Name)
		}
		last := ingress[len(ingress)-1]
		path := []string{".*", "a .*", ".* " + last, "a .* " + last, ". .", "(. .)+", "a+ " + last + "*", "a | .* " + last + " .?", ". a .*"}[r.Intn(9)]
		return made(t, x, path, r.Intn(5), strings.Join(ingress, " "))
	}
	var p api.Plan
	for level := 1; level < 5; level++ {
		for device := range x.Devices {
			for state := range r.Intn(3) {
				p.Nodes = append(p.Nodes, node(level, device, state, true))
			}
		}
	}
	for n := range p.Nodes {
		last := -1
		for k := range p.Nodes {
			a, b := &p.Nodes[n], p.Nodes[k]
			if b.Level == a.Level+1 && b.Device != last && slices.Contains(topo.Near(x, a.Device), b.Device) && r.Intn(3) > 0 {
				a.Kids, last = append(a.Kids, k), b.Device
			}
		}
		p.Nodes[n].Accept = len(p.Nodes[n].Kids) == 0 || r.Intn(2) == 0
	}
	for range r.Intn(5) {
		if root := r.Intn(len(p.Nodes)+1) - 1; root < 0 || p.Nodes[root].Level == 1 {
			p.Roots = append(p.Roots, root)
		}
	}
	return p
}

func someHeader(r *rand.Rand) string { return []string{"00", "01", "10", "11"}[r.Intn(4)] }
