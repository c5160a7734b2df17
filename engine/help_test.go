package engine_test

import (
	"cmp"
	"fmt"
	"math/rand"
	"slices"
	"strings"
	"testing"

	"milestone/api"
	"milestone/bdd"
	"milestone/classes"
	"milestone/counts"
	"milestone/engine"
	"milestone/plan"
	"milestone/regex"
	"milestone/rules"
	"milestone/topo"
)

func same(t *testing.T, what string, got, want any) {
	t.Helper()
	if got != want {
		t.Errorf("%s = %v, want %v", what, got, want)
	}
}

// newTable is one of so many bits, with the Limit that all calls ask for.
func newTable(t *testing.T, width int) *bdd.Table {
	t.Helper()
	b, e := bdd.New(width, api.MaxNodes)
	if b == nil || e != api.OK {
		t.Fatalf("New(%d) = %v, %v", width, b, e)
	}
	return b
}

// setOf is the ref of all headers of some cubes.
func setOf(t *testing.T, b *bdd.Table, cubes ...string) api.Ref {
	t.Helper()
	set := api.Ref(0)
	for _, s := range cubes {
		one, e := b.Cube(s)
		if e != api.OK {
			t.Fatalf("Cube(%s): %v", s, e)
		}
		if set, e = b.Or(set, one); e != api.OK {
			t.Fatalf("Or: %v", e)
		}
	}
	return set
}

// headersOf are all headers of so many bits.
func headersOf(width int) []string {
	var l []string
	for i := range 1 << width {
		l = append(l, fmt.Sprintf("%0*b", width, i))
	}
	return l
}

// within are the headers of a set, asked one by one.
func within(t *testing.T, b *bdd.Table, r api.Ref) []string {
	t.Helper()
	var l []string
	for _, h := range headersOf(b.Bits()) {
		has, e := b.Has(r, h)
		if e != api.OK {
			t.Fatalf("Has(%d, %s): %v", r, h, e)
		}
		if has {
			l = append(l, h)
		}
	}
	return l
}

func entry(where api.Ref, c api.Counts) api.Entry { return api.Entry{Where: where, Counts: c} }

// entries are told with blanks between: each as its headers' cubes, with `+` between, a colon, and its Counts.
func entries(t *testing.T, b *bdd.Table, bound int, text string) []api.Entry {
	t.Helper()
	var l []api.Entry
	for _, s := range strings.Fields(text) {
		cubes, set, _ := strings.Cut(s, ":")
		c, at, e := counts.Read(bound, set)
		if e != api.OK {
			t.Fatalf("Read(%s): %v at %d", set, e, at)
		}
		l = append(l, entry(setOf(t, b, strings.Split(cubes, "+")...), c))
	}
	return l
}

// said are entries as a text, as entries takes them.
func said(b *bdd.Table, bound int, l ...api.Entry) string {
	var texts []string
	for _, x := range l {
		cubes, e := b.Cubes(x.Where, 1000)
		if e != api.OK {
			cubes = []string{fmt.Sprint("ref ", x.Where, ": ", e)}
		}
		c, e := counts.Text(bound, x.Counts)
		if e != api.OK {
			c = fmt.Sprintf("%b: %v", x.Counts, e)
		}
		texts = append(texts, strings.Join(cubes, "+")+":"+c)
	}
	return strings.Join(texts, " ")
}

// network has devices and links between ports, both told with blanks between: a device as its name, and its ports behind a colon with commas between; a link as two ports with a minus between, each as a device, a dot and the port's name.
func network(t *testing.T, width int, devices, links string) api.Topo {
	t.Helper()
	lines := []string{fmt.Sprint("width ", width)}
	for _, d := range strings.Fields(devices) {
		name, ports, has := strings.Cut(d, ":")
		lines = append(lines, "device "+name+map[bool]string{true: " port " + ports}[has])
	}
	for _, l := range strings.Fields(links) {
		a, b, _ := strings.Cut(l, "-")
		lines = append(lines, "link "+strings.Replace(a, ".", " ", 1)+" -> "+strings.Replace(b, ".", " ", 1))
	}
	x, line, col, e := topo.Parse(strings.Join(lines, "\n"))
	if e != api.OK {
		t.Fatalf("Parse: %v at %d, %d of %q", e, line, col, lines)
	}
	return x
}

// inRow is the network of the chapter's example, with a port at b that has no link.
func inRow(t *testing.T) api.Topo {
	t.Helper()
	return network(t, 2, "a:p b:p,q,r c:p", "a.p-b.p b.q-c.p")
}

// mesh has links of all kinds: a twice to b, once to c, b to c, and b with itself; a.s and c.s have none.
func mesh(t *testing.T, width int) api.Topo {
	t.Helper()
	return network(t, width, "a:p,q,r,s b:p,q,r,t,u c:p,q,s", "a.p-b.p a.q-b.q a.r-c.p b.r-c.q b.t-b.u")
}

// made is the plan of a path, so many hops, and ingresses that are told with blanks between.
func made(t *testing.T, x api.Topo, path string, hops int, ingress string) api.Plan {
	t.Helper()
	r, line, col, e := regex.Parse(path)
	if e != api.OK {
		t.Fatalf("Parse(%.80q): %v at %d, %d", path, e, line, col)
	}
	p, e := plan.Make(x, api.Invariant{Name: "v", Packets: strings.Repeat("x", x.Width), Ingress: strings.Fields(ingress), Hops: hops, Compare: api.Equal, Count: 1, Path: r})
	if e != api.OK {
		t.Fatalf("Make(%.80s, %d hops): %v", path, hops, e)
	}
	return p
}

func node(level, device, state int, accept bool, kids ...int) api.PlanNode {
	return api.PlanNode{Level: level, Device: device, State: state, Accept: accept, Kids: kids}
}

func planOf(roots []int, nodes ...api.PlanNode) api.Plan {
	return api.Plan{Nodes: nodes, Roots: roots}
}

// rulesOf are told as lines of rules with `;` between.
func rulesOf(t *testing.T, width int, row string) []api.Rule {
	t.Helper()
	l, line, col, e := rules.Parse(strings.ReplaceAll(row, ";", "\n"), width)
	if e != api.OK {
		t.Fatalf("Parse(%q): %v at %d, %d", row, e, line, col)
	}
	return l
}

// classesOf are the classes of rules.
func classesOf(t *testing.T, b *bdd.Table, l ...api.Rule) []api.Class {
	t.Helper()
	c, e := classes.Build(b, l...)
	if e != api.OK {
		t.Fatalf("Build of %d rules: %v", len(l), e)
	}
	return c
}

// rowOf are the classes of rules, told as lines with `;` between; of an action alone: that is done with all headers.
func rowOf(t *testing.T, b *bdd.Table, row string) []api.Class {
	t.Helper()
	if row != "" && !strings.HasPrefix(row, "rule ") {
		row = "rule 1 " + strings.Repeat("x", b.Bits()) + " " + row
	}
	return classesOf(t, b, rulesOf(t, b.Bits(), row)...)
}

// rowsOf are those of all devices; those that are left out have no rules.
func rowsOf(t *testing.T, b *bdd.Table, x api.Topo, rows ...string) [][]api.Class {
	t.Helper()
	var l [][]api.Class
	for i := range x.Devices {
		row := ""
		if i < len(rows) {
			row = rows[i]
		}
		l = append(l, rowOf(t, b, row))
	}
	return l
}

// askNode asks for a place's result, as entries takes it.
func askNode(t *testing.T, what string, b *bdd.Table, x api.Topo, p api.Plan, n int, packets api.Ref, row string, bound int, want string, kids ...string) {
	t.Helper()
	var heard [][]api.Entry
	for _, k := range kids {
		heard = append(heard, entries(t, b, bound, k))
	}
	l, e := engine.Node(b, x, p, n, packets, rowOf(t, b, row), heard, bound)
	if got := said(b, bound, l...); e != api.OK || got != want {
		t.Errorf("%s: Node(%d, %s, %s, %q, %d) = %s, %v, want %s", what, n, strings.Join(within(t, b, packets), "+"), row, kids, bound, got, e, want)
	}
	same(t, what+": Check", engine.Check(b, packets, l, bound), api.OK)
	if !slices.Equal(l, entries(t, b, bound, want)) {
		t.Errorf("%s: other refs than those of the same sets: %v", what, l)
	}
}

// whole are the results of all places.
func whole(t *testing.T, b *bdd.Table, x api.Topo, p api.Plan, packets api.Ref, rows [][]api.Class, bound int) [][]api.Entry {
	t.Helper()
	l, e := engine.Whole(b, x, p, packets, rows, bound)
	if e != api.OK || len(l) != len(p.Nodes) {
		t.Fatalf("Whole of %d places = %d results, %v", len(p.Nodes), len(l), e)
	}
	for n, result := range l {
		if e := engine.Check(b, packets, result, bound); e != api.OK {
			t.Errorf("Check of place %d's result, %s: %v", n, said(b, bound, result...), e)
		}
	}
	return l
}

// askWhole asks for the results of all places, with a bar between.
func askWhole(t *testing.T, what string, b *bdd.Table, x api.Topo, p api.Plan, packets api.Ref, rows [][]api.Class, bound int, want string) {
	t.Helper()
	var texts []string
	for _, l := range whole(t, b, x, p, packets, rows, bound) {
		texts = append(texts, said(b, bound, l...))
	}
	same(t, what+": Whole", strings.Join(texts, " | "), want)
}

func askAt(t *testing.T, b *bdd.Table, l []api.Entry, header string, want api.Counts, lies bool) {
	t.Helper()
	if c, ok, e := engine.At(b, l, header); c != want || ok != lies || e != api.OK {
		t.Errorf("At(%v, %s) = %b, %v, %v, want %b, %v", l, header, c, ok, e, want, lies)
	}
}

func askVerdict(t *testing.T, b *bdd.Table, l []api.Entry, bound, compare int, want api.Verdict) {
	t.Helper()
	if v, e := engine.Verdict(b, l, bound, compare); v != want || e != api.OK {
		t.Errorf("Verdict(%s, %d, %d) = %v, %v, want %v", said(b, bound, l...), bound, compare, v, e, want)
	}
}

// breaks is the verdict of what is not right.
func breaks(header string, n int) api.Verdict { return api.Verdict{Header: header, Count: n} }

var right = api.Verdict{Right: true}

// question is all that the calls are asked of, with what may be: a fault is put into one field.
type question struct {
	b       *bdd.Table
	x       api.Topo
	p       api.Plan
	n       int
	packets api.Ref
	row     []api.Class
	rows    [][]api.Class
	kids    [][]api.Entry
	l       []api.Entry
	bound   int
	compare int
	header  string
}

// good is a question that may be: of the place of b, whose Kid is that of c.
func good(t *testing.T) question {
	t.Helper()
	b, x := newTable(t, 2), inRow(t)
	q := question{b: b, x: x, p: made(t, x, "a .* c", 3, "a c"), n: 1, packets: setOf(t, b, "1x", "01"), bound: 2, compare: api.Equal, header: "10"}
	q.rows = rowsOf(t, b, x, "all(p)", "rule 5 1x any(q,r);rule 4 xx all(q)", "rule 3 x1 deliver")
	q.row = q.rows[1]
	q.kids = [][]api.Entry{entries(t, b, 2, "10:{0} x1:{1}")}
	q.l = entries(t, b, 2, "01:{1} 10:{0,1} 11:{2}")
	return q
}

func askCheck(t *testing.T, what string, q question, want api.Errno) {
	t.Helper()
	if e := engine.Check(q.b, q.packets, q.l, q.bound); e != want {
		t.Errorf("%s: Check = %v, want %v", what, e, want)
	}
}

func askNone(t *testing.T, what string, q question, want api.Errno) {
	t.Helper()
	if l, e := engine.None(q.b, q.packets, q.bound); e != want || e != api.OK && len(l) != 0 {
		t.Errorf("%s: None = %v, %v, want %v", what, l, e, want)
	}
}

func askNodes(t *testing.T, what string, q question, want api.Errno) {
	t.Helper()
	if l, e := engine.Node(q.b, q.x, q.p, q.n, q.packets, q.row, q.kids, q.bound); e != want || e != api.OK && len(l) != 0 {
		t.Errorf("%s: Node = %v, %v, want %v", what, l, e, want)
	}
}

func askWholes(t *testing.T, what string, q question, want api.Errno) {
	t.Helper()
	if l, e := engine.Whole(q.b, q.x, q.p, q.packets, q.rows, q.bound); e != want || e != api.OK && len(l) != 0 {
		t.Errorf("%s: Whole = %v, %v, want %v", what, l, e, want)
	}
}

func askLies(t *testing.T, what string, q question, want api.Errno) {
	t.Helper()
	if c, ok, e := engine.At(q.b, q.l, q.header); e != want || e != api.OK && (c != 0 || ok) {
		t.Errorf("%s: At = %b, %v, %v, want %v", what, c, ok, e, want)
	}
}

func askVerdicts(t *testing.T, what string, q question, want api.Errno) {
	t.Helper()
	if v, e := engine.Verdict(q.b, q.l, q.bound, q.compare); e != want || e != api.OK && v != (api.Verdict{}) {
		t.Errorf("%s: Verdict = %v, %v, want %v", what, v, e, want)
	}
}

// askPlaces asks the two calls that work out results of places.
func askPlaces(t *testing.T, what string, q question, want api.Errno) {
	t.Helper()
	askNodes(t, what, q, want)
	askWholes(t, what, q, want)
}

// askAll asks all calls.
func askAll(t *testing.T, what string, q question, want api.Errno) {
	t.Helper()
	askCheck(t, what, q, want)
	askNone(t, what, q, want)
	askPlaces(t, what, q, want)
	askLies(t, what, q, want)
	askVerdicts(t, what, q, want)
}

// pick is one of some.
func pick[T any](r *rand.Rand, l ...T) T { return l[r.Intn(len(l))] }

// someSet is that of some headers: often of few cubes, at times of none, of all, or of one.
func someSet(t *testing.T, r *rand.Rand, b *bdd.Table) api.Ref {
	t.Helper()
	switch r.Intn(8) {
	case 0:
		return 0
	case 1, 2:
		return 1
	case 3:
		return setOf(t, b, pick(r, headersOf(b.Bits())...))
	}
	var cubes []string
	for range 1 + r.Intn(3) {
		cubes = append(cubes, someCube(r, b.Bits()))
	}
	return setOf(t, b, cubes...)
}

func someCube(r *rand.Rand, width int) string {
	var s strings.Builder
	for range width {
		s.WriteByte("01xx"[r.Intn(4)])
	}
	return s.String()
}

// someResult is one of some packets: each of them has one of a few counts.
func someResult(t *testing.T, r *rand.Rand, b *bdd.Table, packets api.Ref, bound int) []api.Entry {
	t.Helper()
	few := make([]api.Counts, 1+r.Intn(4))
	for i := range few {
		few[i] = someCounts(r, bound)
	}
	parts := map[api.Counts][]string{}
	for _, h := range within(t, b, packets) {
		c := pick(r, few...)
		parts[c] = append(parts[c], h)
	}
	var l []api.Entry
	for c, headers := range parts {
		l = append(l, entry(setOf(t, b, headers...), c))
	}
	slices.SortFunc(l, func(a, b api.Entry) int { return cmp.Compare(a.Counts, b.Counts) })
	return l
}

// someCounts are often of one element.
func someCounts(r *rand.Rand, bound int) api.Counts {
	c := api.Counts(1) << r.Intn(min(bound, 4)+2)
	if r.Intn(3) == 0 {
		c |= 1 << r.Intn(bound+2)
	}
	return c
}

// someNetwork is one of few devices and some links, some of a device with itself, some side by side; each device has a port s without a link.
func someNetwork(t *testing.T, r *rand.Rand, width int) api.Topo {
	t.Helper()
	names := []string{"a", "b", "c", "d"}[:1+r.Intn(4)]
	var free, devices, links []string
	for _, name := range names {
		devices = append(devices, name+":p,q,r,s,t")
		for _, port := range []string{"p", "q", "r", "t"} {
			free = append(free, name+"."+port)
		}
	}
	r.Shuffle(len(free), func(i, j int) { free[i], free[j] = free[j], free[i] })
	many := len(free) / 2
	if r.Intn(3) == 0 {
		many = r.Intn(many + 1)
	}
	for i := range many {
		links = append(links, free[2*i]+"-"+free[2*i+1])
	}
	return network(t, width, strings.Join(devices, " "), strings.Join(links, " "))
}

// someRows are rules of all devices; of half of them the last device delivers what meets no other rule, and the others send it somewhere.
func someRows(t *testing.T, r *rand.Rand, x api.Topo) [][]api.Rule {
	t.Helper()
	lively := r.Intn(2) == 0
	var rows [][]api.Rule
	for device := range x.Devices {
		kinds := []string{"drop", "deliver", "deliver", "all", "all", "all", "any"}
		if lively {
			kinds = []string{"all", "all", "any"}
		}
		if lively && device == len(x.Devices)-1 {
			kinds = []string{"deliver", "deliver", "all"}
		}
		rows = append(rows, someRules(t, r, x.Width, kinds...))
	}
	return rows
}

// someRules are a few; of most rows the last one is of all headers, so that few are dropped.
func someRules(t *testing.T, r *rand.Rand, width int, kinds ...string) []api.Rule {
	t.Helper()
	row := []string{"rule 0 " + strings.Repeat("x", width) + " " + someAction(r, kinds...)}
	if r.Intn(4) == 0 {
		row = nil
	}
	seen := map[string]int{}
	for range r.Intn(5) {
		key := fmt.Sprint(1+r.Intn(3), " ", someCube(r, width))
		if seen[key]++; seen[key] == 1 {
			row = append(row, "rule "+key+" "+someAction(r, kinds...))
		}
	}
	return rulesOf(t, width, strings.Join(row, ";"))
}

func someAction(r *rand.Rand, kinds ...string) string {
	kind := pick(r, kinds...)
	if kind != "all" && kind != "any" {
		return kind
	}
	ports := []string{"p", "q", "r", "s", "t", "v"}
	r.Shuffle(len(ports), func(i, j int) { ports[i], ports[j] = ports[j], ports[i] })
	return kind + "(" + strings.Join(ports[:1+r.Intn(len(ports))], ",") + ")"
}

// somePlan is one that may be over a network: made of an invariant, or by hand, with places without a way to them.
func somePlan(t *testing.T, r *rand.Rand, x api.Topo) api.Plan {
	t.Helper()
	if r.Intn(2) == 0 {
		var ingress []string
		for _, d := range x.Devices {
			ingress = append(ingress, d.Name)
		}
		last := ingress[len(ingress)-1]
		path := pick(r, ".*", "a .*", ".* "+last, "a .* "+last, ". .", "(. .)+", "a+ "+last+"*", "a | .* "+last+" .?", ". a .*")
		return made(t, x, path, r.Intn(5), strings.Join(ingress, " "))
	}
	var p api.Plan
	for level := 1; level < 5; level++ {
		for device := range x.Devices {
			for state := range r.Intn(3) {
				p.Nodes = append(p.Nodes, node(level, device, state, true))
			}
		}
	}
	for n := range p.Nodes {
		last := -1
		for k := range p.Nodes {
			a, b := &p.Nodes[n], p.Nodes[k]
			if b.Level == a.Level+1 && b.Device != last && slices.Contains(topo.Near(x, a.Device), b.Device) && r.Intn(3) > 0 {
				a.Kids, last = append(a.Kids, k), b.Device
			}
		}
		p.Nodes[n].Accept = len(p.Nodes[n].Kids) == 0 || r.Intn(2) == 0
	}
	for range r.Intn(5) {
		if root := r.Intn(len(p.Nodes)+1) - 1; root < 0 || p.Nodes[root].Level == 1 {
			p.Roots = append(p.Roots, root)
		}
	}
	return p
}

func someBound(r *rand.Rand) int { return pick(r, 0, 1, 1, 2, 3, 5, 17, 61, 62) }
