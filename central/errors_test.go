package central_test

import (
	"fmt"
	"math"
	"slices"
	"strings"
	"testing"
	"unsafe"

	"milestone/api"
	"milestone/central"
)

// What the examples of faults are made of may be.
func TestTheGoodQuestion(t *testing.T) {
	askAll(t, "a good question", good(t), api.OK)
}

// Each fault alone, and which one is told where there are several: the one that the chapter names first.
func TestWhichErrorComesFirst(t *testing.T) {
	faults := []struct {
		want api.Errno
		put  func(q *question)
	}{
		{api.ErrTopo, func(q *question) { q.x.Links = append(q.x.Links, q.x.Links[0]) }},
		{api.ErrPlan, func(q *question) { q.p.Roots = append(q.p.Roots, 7) }},
		{api.ErrFibs, func(q *question) { q.fibs = append(q.fibs, q.fibs[0]) }},
		{api.ErrCube, func(q *question) { q.fibs[1] = append(q.fibs[1], api.Rule{Match: "2x"}) }},
		{api.ErrText, func(q *question) { q.header = "1x" }},
		{api.ErrArg, func(q *question) { q.bound, q.most = api.MaxCount+1, 1<<30+1 }},
		{api.ErrRange, func(q *question) { q.n, q.i, q.path = 3, 2, []int{0, 3} }},
		{api.ErrCompare, func(q *question) { q.compare = 4 }},
	}
	const plan, place, compare = 1, 6, 7
	for some := range 1 << len(faults) {
		q := good(t)
		first := func(but ...int) api.Errno {
			for i, f := range faults {
				if some>>i&1 == 1 && !slices.Contains(but, i) {
					return f.want
				}
			}
			return api.OK
		}
		for i, f := range faults {
			if some>>i&1 == 1 {
				f.put(&q)
			}
		}
		what := fmt.Sprintf("the faults %b", some)
		askCount(t, what, q, first(compare))
		askNoVerdict(t, what, q, first())
		askCopying(t, what, q, first(plan, compare))
		if l, e := central.Counts(q.x, q.p, q.fibs, q.header, q.bound); e != first(place, compare) || e != api.OK && len(l) != 0 {
			t.Errorf("%s: Counts = %v, %v, want %v", what, l, e, first(place, compare))
		}
	}
}

// Of all: topo.Check's error, whatever else there is.
func TestOverNoTopology(t *testing.T) {
	for what, put := range map[string]func(x *api.Topo){
		"nothing":             func(x *api.Topo) { *x = api.Topo{} },
		"no devices":          func(x *api.Topo) { x.Devices, x.Links = nil, nil },
		"no width":            func(x *api.Topo) { x.Width = 0 },
		"a width too great":   func(x *api.Topo) { x.Width = api.MaxBits + 1 },
		"a width without end": func(x *api.Topo) { x.Width = math.MaxInt },
		"devices that fall":   func(x *api.Topo) { x.Devices[0].Name = "z" },
		"devices alike":       func(x *api.Topo) { x.Devices[1].Name = "a" },
		"no name":             func(x *api.Topo) { x.Devices[2].Name = "" },
		"no port's name":      func(x *api.Topo) { x.Devices[0].Ports[0] = "p p" },
		"ports that fall":     func(x *api.Topo) { slices.Reverse(x.Devices[1].Ports) },
		"no class":            func(x *api.Topo) { x.Devices[0].Classes = []string{""} },
		"a link to nobody":    func(x *api.Topo) { x.Links[1].B = 3 },
		"a link from nobody":  func(x *api.Topo) { x.Links[0].A = -1 },
		"a link to no port":   func(x *api.Topo) { x.Links[1].PortB = "q" },
		"a link to far away":  func(x *api.Topo) { x.Links[1].B = math.MaxInt },
		"links that fall":     func(x *api.Topo) { slices.Reverse(x.Links) },
		"a port linked twice": func(x *api.Topo) { x.Links[1].PortA = "p" },
		"too many devices":    func(x *api.Topo) { x.Devices = make([]api.Device, api.MaxDevices+1) },
		"too many links":      func(x *api.Topo) { x.Links = make([]api.Link, api.MaxLinks+1) },
	} {
		q := good(t)
		put(&q.x)
		askAll(t, what, q, api.ErrTopo)
		q.fibs, q.p, q.header, q.bound, q.most, q.n, q.i, q.path, q.compare = nil, planOf([]int{9}), "", -1, -1, -1, -1, []int{-1}, 0
		askAll(t, what+", and all else", q, api.ErrTopo)
	}
	askAll(t, "nothing at all", question{}, api.ErrTopo)
}

// Of all but Copies, next: plan.Check's error.
func TestOfNoPlan(t *testing.T) {
	for what, put := range map[string]func(p *api.Plan){
		"too many nodes":       func(p *api.Plan) { p.Nodes = make([]api.PlanNode, api.MaxPlan+1) },
		"nodes that fall":      func(p *api.Plan) { p.Nodes[0], p.Nodes[2] = p.Nodes[2], p.Nodes[0] },
		"nodes alike":          func(p *api.Plan) { p.Nodes = append(p.Nodes, p.Nodes[2]) },
		"a Level below 1":      func(p *api.Plan) { *p = planOf(nil, node(0, 0, 0, true)) },
		"a Level above 65":     func(p *api.Plan) { *p = planOf(nil, node(66, 0, 0, true)) },
		"a Device below 0":     func(p *api.Plan) { p.Nodes[0].Device = -1 },
		"no such Device":       func(p *api.Plan) { p.Nodes[2].Device = 3 },
		"a Device far off":     func(p *api.Plan) { p.Nodes[2].Device = math.MaxInt },
		"a State below 0":      func(p *api.Plan) { p.Nodes[1].State = -1 },
		"Kids alike":           func(p *api.Plan) { p.Nodes[0].Kids = []int{1, 1} },
		"a Kid below 0":        func(p *api.Plan) { p.Nodes[0].Kids = []int{-1} },
		"a Kid of no node":     func(p *api.Plan) { p.Nodes[2].Kids = []int{3} },
		"a Kid without end":    func(p *api.Plan) { p.Nodes[2].Kids = []int{math.MaxInt} },
		"its own Kid":          func(p *api.Plan) { p.Nodes[1].Kids = []int{1} },
		"a Kid two Levels off": func(p *api.Plan) { p.Nodes[0].Kids = []int{2} },
		"a Kid ahead":          func(p *api.Plan) { p.Nodes[1].Kids = []int{0} },
		"a Kid that is far":    func(p *api.Plan) { p.Nodes[1].Device = 2 },
		"Kids at one Device":   func(p *api.Plan) { p.Nodes[1].Kids = []int{2, 3}; p.Nodes = append(p.Nodes, node(3, 2, 9, true)) },
		"no Accept and no Kid": func(p *api.Plan) { p.Nodes[2].Accept = false },
		"a Root below -1":      func(p *api.Plan) { p.Roots[0] = -2 },
		"a Root of no node":    func(p *api.Plan) { p.Roots[0] = 3 },
		"a Root of Level 2":    func(p *api.Plan) { p.Roots = append(p.Roots, 1) },
		"Roots without nodes":  func(p *api.Plan) { p.Nodes = nil },
	} {
		q := good(t)
		put(&q.p)
		askCounting(t, what, q, api.ErrPlan)
		askCopying(t, what, q, api.OK)
		q.fibs, q.header, q.bound, q.n, q.i, q.compare = nil, "", -1, -1, -1, 0
		askCounting(t, what+", and all else", q, api.ErrPlan)
	}
}

// Next: not as many rows as devices.
func TestTooFewRowsAndTooMany(t *testing.T) {
	q := good(t)
	for n := range 6 {
		if n == 3 {
			continue
		}
		q.fibs = make([][]api.Rule, n)
		askAll(t, fmt.Sprint(n, " rows"), q, api.ErrFibs)
	}
	q.fibs = slices.Repeat([][]api.Rule{{{Match: "?"}}}, 4)
	askAll(t, "rows that may not be", q, api.ErrFibs)
	q.fibs, q.header, q.bound, q.most, q.n, q.i, q.path, q.compare = nil, "", -1, -1, -1, -1, []int{-1}, 0
	askAll(t, "no rows, and all else", q, api.ErrFibs)
}

// wrong are rows that may not be, over two bits, and fib.Do's error of each.
func wrong() map[string]struct {
	row  []api.Rule
	want api.Errno
} {
	ports := func(many int) []string {
		var l []string
		for i := range many {
			l = append(l, fmt.Sprintf("p%02d", i))
		}
		return l
	}
	rule := func(priority int, match string, kind api.ActionKind, ports ...string) api.Rule {
		return api.Rule{Priority: priority, Match: match, Action: api.Action{Kind: kind, Ports: ports}}
	}
	var full []api.Rule
	for i := range api.MaxRules {
		full = append(full, rule(i, "1x", api.Drop))
	}
	fine := rule(9, "xx", api.Deliver)
	return map[string]struct {
		row  []api.Rule
		want api.Errno
	}{
		"a Priority below 0":         {[]api.Rule{rule(-1, "xx", api.Drop)}, api.ErrArg},
		"the least Priority":         {[]api.Rule{fine, rule(math.MinInt, "xx", api.Drop)}, api.ErrArg},
		"a Priority too great":       {[]api.Rule{fine, rule(api.MaxPrio+1, "xx", api.Drop)}, api.ErrArg},
		"no Match":                   {[]api.Rule{rule(1, "", api.Drop)}, api.ErrCube},
		"a Match of another byte":    {[]api.Rule{fine, rule(1, "1y", api.Drop)}, api.ErrCube},
		"a Match of one bit":         {[]api.Rule{fine, rule(1, "1", api.Drop)}, api.ErrWidth},
		"a Match of three bits":      {[]api.Rule{rule(1, "1xx", api.Drop), fine}, api.ErrWidth},
		"no action":                  {[]api.Rule{{Priority: 1, Match: "xx"}}, api.ErrAction},
		"no such kind":               {[]api.Rule{fine, rule(1, "xx", 5)}, api.ErrAction},
		"a kind below 0":             {[]api.Rule{fine, rule(1, "xx", -1)}, api.ErrAction},
		"Drop with a port":           {[]api.Rule{rule(1, "xx", api.Drop, "p")}, api.ErrAction},
		"Deliver with a port":        {[]api.Rule{rule(1, "xx", api.Deliver, "p")}, api.ErrAction},
		"All without a port":         {[]api.Rule{rule(1, "xx", api.All)}, api.ErrAction},
		"Any without a port":         {[]api.Rule{rule(1, "xx", api.Any)}, api.ErrAction},
		"ports that fall":            {[]api.Rule{rule(1, "xx", api.All, "q", "p")}, api.ErrAction},
		"ports alike":                {[]api.Rule{rule(1, "xx", api.Any, "p", "p")}, api.ErrAction},
		"a port that is no name":     {[]api.Rule{rule(1, "xx", api.All, "p", "q q")}, api.ErrAction},
		"65 ports":                   {[]api.Rule{rule(1, "xx", api.All, ports(65)...)}, api.ErrAction},
		"a rule twice":               {[]api.Rule{fine, fine}, api.ErrSame},
		"a key twice":                {[]api.Rule{fine, rule(1, "1x", api.Drop), rule(9, "xx", api.Drop)}, api.ErrSame},
		"a rule too many":            {append(slices.Clone(full), fine), api.ErrMany},
		"a rule too many, and twice": {append(slices.Clone(full), full[7]), api.ErrSame},
		"a rule too many, and wrong": {append(slices.Clone(full), rule(1, "2", api.Drop)), api.ErrCube},
		"wrong behind too many":      {append(slices.Clone(full), fine, rule(1, "2", api.Drop)), api.ErrMany},
		"two faults":                 {[]api.Rule{fine, rule(1, "1", api.Drop), fine}, api.ErrWidth},
		"two faults, turned":         {[]api.Rule{fine, fine, rule(1, "1", api.Drop)}, api.ErrSame},
		"two faults of one rule":     {[]api.Rule{rule(-1, "1", api.Drop, "p")}, api.ErrArg},
	}
}

// Next: fib.Do's error of a row that may not be, whether anybody needs that row or not.
func TestRowsThatMayNotBe(t *testing.T) {
	for what, w := range wrong() {
		for device := range 3 {
			q := good(t)
			q.fibs[device] = w.row
			askAll(t, fmt.Sprint(what, " at ", device), q, w.want)
			q.header, q.bound, q.most, q.n, q.i, q.path, q.compare = "", -1, -1, -1, -1, []int{-1}, 0
			askAll(t, fmt.Sprint(what, " at ", device, ", and all else"), q, w.want)
		}
		q := good(t)
		q.p, q.path, q.fibs[2] = planOf([]int{-1}), nil, w.row
		q.n = -1
		askCount(t, what+": no place needs it", q, w.want)
		askNoVerdict(t, what+": no place needs it", q, w.want)
		askCopying(t, what+": no path needs it", q, w.want)
	}
	q := good(t)
	var ports []string
	for i := range api.MaxPorts {
		ports = append(ports, fmt.Sprintf("p%02d", i))
	}
	q.fibs[0] = []api.Rule{{Priority: api.MaxPrio, Match: "xx", Action: api.Action{Kind: api.All, Ports: ports}}, {Match: "xx", Action: api.Action{Kind: api.Drop}}}
	askAll(t, "as much as may be", q, api.OK)
}

// The error is that of the first row that may not be, wherever its fault stands in it.
func TestTheFirstRowThatMayNotBe(t *testing.T) {
	l := wrong()
	for what, a := range l {
		if len(a.row) > 3 {
			continue
		}
		for other, b := range l {
			q := good(t)
			q.fibs[1], q.fibs[2] = a.row, b.row
			askCopying(t, what+", then "+other, q, a.want)
			askCount(t, what+", then "+other, q, a.want)
		}
	}
}

// Next: headers that are none of Width bits.
func TestNoHeader(t *testing.T) {
	for _, header := range []string{"", "1", "100", "1x", "xx", "12", " 1", "1 ", "1\n", "\x00\x00", "\x000", "é", "0١", "\xff\xff", strings.Repeat("0", 1<<20)} {
		q := good(t)
		q.header = header
		what := fmt.Sprintf("the header %.9q", header)
		askAll(t, what, q, api.ErrText)
		q.bound, q.most, q.n, q.i, q.path, q.compare = -1, -1, -1, -1, []int{-1}, 0
		askAll(t, what+", and all else", q, api.ErrText)
		q = good(t)
		q.header, q.fibs = header, make([][]api.Rule, 3)
		askAll(t, what+", without rules", q, api.ErrText)
		q.p, q.path = api.Plan{}, nil
		q.n = -1
		askCount(t, what+", without places", q, api.ErrText)
		askCopying(t, what+", without a path", q, api.ErrText)
	}
}

// Next: bounds, and most.
func TestNoBound(t *testing.T) {
	for _, bound := range []int{-1, -2, api.MaxCount + 1, api.MaxCount + 2, 64, math.MinInt, math.MaxInt} {
		q := good(t)
		q.bound = bound
		askCounting(t, fmt.Sprint("the bound ", bound), q, api.ErrArg)
		askCopying(t, fmt.Sprint("the bound ", bound), q, api.OK)
		q.n, q.i, q.compare = -1, 9, 0
		askCounting(t, fmt.Sprint("the bound ", bound, ", and all else"), q, api.ErrArg)
		q.p = api.Plan{}
		askCounting(t, fmt.Sprint("the bound ", bound, ", without places"), q, api.ErrArg)
	}
	for _, bound := range []int{0, 1, api.MaxCount - 1, api.MaxCount} {
		q := good(t)
		q.bound = bound
		askAll(t, fmt.Sprint("the bound ", bound), q, api.OK)
	}
	for _, most := range []int{-1, -2, 1<<30 + 1, 1 << 31, 1 << 40, math.MinInt, math.MaxInt} {
		q := good(t)
		q.most = most
		askCopying(t, fmt.Sprint("most ", most), q, api.ErrArg)
		askCounting(t, fmt.Sprint("most ", most), q, api.OK)
		q.path = []int{-1}
		askCopying(t, fmt.Sprint("most ", most, ", and no device"), q, api.ErrArg)
		q.path = nil
		askCopying(t, fmt.Sprint("most ", most, ", of an empty path"), q, api.ErrArg)
	}
	for _, most := range []int{0, 1, 1<<30 - 1, 1 << 30} {
		q := good(t)
		q.most = most
		askCopying(t, fmt.Sprint("most ", most), q, api.OK)
	}
}

// P15.1: ErrRange: n is no place.
func TestCountOfNoPlace(t *testing.T) {
	for _, n := range []int{-1, 3, 4, math.MinInt, math.MaxInt} {
		q := good(t)
		q.n = n
		askCount(t, fmt.Sprint("the place ", n), q, api.ErrRange)
		askNoVerdict(t, "no place, of Verdict", q, api.OK)
	}
	q := good(t)
	q.p = planOf([]int{-1, -1})
	for _, n := range []int{-1, 0, 1} {
		q.n = n
		askCount(t, fmt.Sprint("the place ", n, " of none"), q, api.ErrRange)
	}
}

// P15.2: ErrRange: i is no number of a Root; and then ErrCompare.
func TestVerdictOfNoRootAndNoCompare(t *testing.T) {
	compares := []int{0, -1, 4, 5, math.MinInt, math.MaxInt}
	for _, i := range []int{-1, 2, 3, math.MinInt, math.MaxInt} {
		q := good(t)
		q.i = i
		askNoVerdict(t, fmt.Sprint("the root ", i), q, api.ErrRange)
		for _, q.compare = range compares {
			askNoVerdict(t, fmt.Sprint("the root ", i, " and no compare"), q, api.ErrRange)
		}
	}
	for _, compare := range compares {
		q := good(t)
		q.compare = compare
		for q.i = range 2 { // the second one is -1
			askNoVerdict(t, fmt.Sprint("the compare ", compare), q, api.ErrCompare)
		}
		q.p, q.i = planOf([]int{-1}), 0
		askNoVerdict(t, fmt.Sprint("the compare ", compare, ", without places"), q, api.ErrCompare)
	}
	q := good(t)
	q.p.Roots = nil
	askNoVerdict(t, "no roots", q, api.ErrRange)
}

// P15.3: ErrRange: a number of the path is no device's, wherever it stands.
func TestCopiesOfNoDevice(t *testing.T) {
	for _, device := range []int{-1, 3, 256, math.MinInt, math.MaxInt} {
		for _, path := range [][]int{{device}, {device, 1, 2}, {0, device, 2}, {0, 1, device}, {2, 2, 0, device}, {0, 1, 2, device, 0}} {
			for _, most := range []int{0, 1, 1 << 30} {
				q := good(t)
				q.path, q.most = path, most
				askCopying(t, fmt.Sprint("the path ", path), q, api.ErrRange)
			}
		}
	}
}

// Rule 4: what is handed in is neither changed nor kept.
func TestNothingIsChangedOrKept(t *testing.T) {
	q := good(t)
	slices.Reverse(q.fibs[0])
	q.fibs[1] = append(q.fibs[1], api.Rule{Priority: 7, Match: "01", Action: api.Action{Kind: api.Drop}}, api.Rule{Priority: 9, Match: "00", Action: api.Action{Kind: api.Deliver}})
	was := fmt.Sprint(q)
	ask := func(q question) string {
		l, e := central.Counts(q.x, q.p, q.fibs, q.header, q.bound)
		c, f := central.Count(q.x, q.p, q.fibs, q.n, q.header, q.bound)
		v, g := central.Verdict(q.x, q.p, q.fibs, q.i, q.header, q.bound, q.compare)
		n, h := central.Copies(q.x, q.fibs, q.header, q.most, q.path...)
		return fmt.Sprint(l, e, c, f, v, g, n, h)
	}
	want := ask(q)
	same(t, "the arguments", fmt.Sprint(q), was)
	for _, put := range []func(q *question){
		func(q *question) { q.x.Links = nil },
		func(q *question) { q.x.Devices[1].Ports[0] = "q" },
		func(q *question) { q.fibs[0][0].Action.Ports[0] = "v" },
		func(q *question) { q.fibs[2] = nil },
		func(q *question) { q.p.Nodes[0].Kids[0] = 7 },
		func(q *question) { q.p.Nodes[2].Accept = false },
		func(q *question) { q.path[1] = 0 },
		func(q *question) { q.header = "x" },
	} {
		other := good(t)
		put(&other)
		ask(other)
		same(t, "the answers, asked again", ask(q), want)
		same(t, "the arguments", fmt.Sprint(q), was)
	}
}

// Rule 4: what stands behind the ends of lists that are handed in stays, too.
func TestNothingIsWrittenBehindLists(t *testing.T) {
	q := good(t)
	path := []int{0, 1, 2, 7, 7}
	q.path = path[:3]
	row := append(slices.Clone(q.fibs[1]), api.Rule{Match: "behind"})
	q.fibs[1] = row[:1]
	nodes := append(slices.Clone(q.p.Nodes), node(9, 9, 9, true))
	q.p.Nodes = nodes[:3]
	askAll(t, "lists with room", q, api.OK)
	same(t, "behind the path", fmt.Sprint(path), "[0 1 2 7 7]")
	same(t, "behind the row", row[1].Match, "behind")
	same(t, "behind the nodes", nodes[3].Level, 9)
}

// Rule 4: an answer is one's own.
func TestAnswersAreNewMemory(t *testing.T) {
	q := good(t)
	l, _ := central.Counts(q.x, q.p, q.fibs, q.header, q.bound)
	m, _ := central.Counts(q.x, q.p, q.fibs, q.header, q.bound)
	want := fmt.Sprint(m)
	_ = append(l, 99, 99)
	for i := range l {
		l[i] = 77
	}
	same(t, "the other answer", fmt.Sprint(m), want)
	askCounts(t, "asked again", q.x, q.p, q.fibs, q.header, q.bound, sets(q.bound, m...))
	a, _ := central.Verdict(q.x, q.p, q.fibs, 0, q.header, q.bound, q.compare)
	b, _ := central.Verdict(q.x, q.p, q.fibs, 0, q.header, q.bound, q.compare)
	same(t, "the header", a.Header, q.header)
	same(t, "that of the argument", unsafe.StringData(a.Header) == unsafe.StringData(q.header), false)
	same(t, "that of the other answer", unsafe.StringData(a.Header) == unsafe.StringData(b.Header), false)
}
