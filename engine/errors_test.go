package engine_test

import (
	"fmt"
	"math"
	"slices"
	"strings"
	"testing"

	"milestone/api"
	"milestone/bdd"
	"milestone/engine"
)

// What the examples of faults are made of may be.
func TestTheGoodQuestion(t *testing.T) {
	askAll(t, "a good question", good(t), api.OK)
}

// untold are refs that a table did not tell, or not any more; none of a good question is told, once a Keep was.
func untold() []api.Ref {
	return []api.Ref{-1, 1000, 1 << 30, math.MaxInt, math.MinInt}
}

// fault is an error, and what brings it up.
type fault struct {
	want api.Errno
	put  func(q *question)
}

// askFaults asks for the first of each some of faults.
func askFaults(t *testing.T, ask func(t *testing.T, what string, q question, want api.Errno), faults ...fault) {
	t.Helper()
	for some := range 1 << len(faults) {
		q, first := good(t), api.OK
		for i, f := range faults {
			if some>>i&1 == 1 {
				f.put(&q)
				if first == api.OK {
					first = f.want
				}
			}
		}
		ask(t, fmt.Sprintf("the faults %b", some), q, first)
	}
}

var (
	noTable   = fault{api.ErrNil, func(q *question) { q.b = nil }}
	noBound   = fault{api.ErrArg, func(q *question) { q.bound = api.MaxCount + 1 }}
	noPackets = fault{api.ErrRef, func(q *question) { q.packets = 1000 }}
	noWhere   = fault{api.ErrRef, func(q *question) { q.l[2].Where = 1000 }}
	noKid     = fault{api.ErrRef, func(q *question) { q.kids[0][1].Where = 1000 }}
	noTopo    = fault{api.ErrTopo, func(q *question) { q.x.Links = append(q.x.Links, q.x.Links[0]) }}
	noPlan    = fault{api.ErrPlan, func(q *question) { q.p.Roots = append(q.p.Roots, 7) }}
	noWidth   = fault{api.ErrWidth, func(q *question) { q.x.Width = 3 }}
	noPlace   = fault{api.ErrRange, func(q *question) { q.n = 3 }}
	noEntries = fault{api.ErrEntries, func(q *question) { q.l, q.kids[0] = q.l[1:], q.kids[0][1:] }}
)

// Each fault alone, and which one is told where there are several: the one that the chapter names first.
func TestWhichErrorComesFirst(t *testing.T) {
	askFaults(t, askCheck, noTable, noBound, noPackets, noWhere, noEntries)
	askFaults(t, askNone, noTable, noBound, noPackets)
	noRef := fault{api.ErrRef, func(q *question) { q.row = append([]api.Class{{Where: 1000}}, q.row...) }}
	noClasses := fault{api.ErrClasses, func(q *question) { slices.Reverse(q.row) }}
	kids := fault{api.ErrKids, func(q *question) { q.kids = append(q.kids, nil) }}
	noEntries := fault{api.ErrEntries, func(q *question) { q.kids[0][0].Counts = 0 }}
	askFaults(t, askNodes, noTable, noBound, noKid, noTopo, noPlan, noWidth, noPlace, noRef, noClasses, kids, noEntries)
	askFaults(t, askNodes, noPackets, noKid, noTopo, noWidth, noRef, noEntries)
	fibs := fault{api.ErrFibs, func(q *question) { q.rows = append(q.rows, nil) }}
	first := fault{api.ErrClasses, func(q *question) { q.rows[1] = nil }}
	second := fault{api.ErrRef, func(q *question) { q.rows[2][0].Where = 1000 }}
	askFaults(t, askWholes, noTable, noBound, noPackets, noTopo, noPlan, noWidth, fibs, first, second)
	askFaults(t, askLies, noTable, noWhere, fault{api.ErrText, func(q *question) { q.header = "1x" }})
	noCounts := fault{api.ErrCounts, func(q *question) { q.l[1].Counts = 1 << 4 }}
	compare := fault{api.ErrCompare, func(q *question) { q.compare = 4 }}
	askFaults(t, askVerdicts, noTable, noBound, noWhere, noCounts, compare)
}

// nothing has all faults but those of the table and the bound.
func nothing(q question) question {
	return question{b: q.b, bound: q.bound, n: -1, packets: -1, l: []api.Entry{entry(-1, 0)}, kids: [][]api.Entry{{entry(-1, 0)}}}
}

// Rule 3: a table that is nil, or that no call made.
func TestTablesThatNoCallMade(t *testing.T) {
	copied := *newTable(t, 2)
	for _, b := range []*bdd.Table{nil, new(bdd.Table), {}, &copied} {
		q := good(t)
		q.b = b
		askAll(t, "no table", q, api.ErrNil)
		q.packets, q.l, q.kids = 1, nil, nil
		askAll(t, "no table, and no refs", q, api.ErrNil)
		askAll(t, "no table, and all else", nothing(q), api.ErrNil)
		q.bound = -1
		askAll(t, "no table, and no bound", nothing(q), api.ErrNil)
	}
	askAll(t, "nothing at all", question{}, api.ErrNil)
}

func TestTablesOfAnotherLimit(t *testing.T) {
	for _, limit := range []int{0, 1, 9, api.MaxNodes / 2, api.MaxNodes - 1} {
		q := good(t)
		q.b, _ = bdd.New(2, limit)
		q.packets, q.l, q.kids = 1, entries(t, newTable(t, 2), 2, "xx:{0}"), [][]api.Entry{{entry(1, 1)}}
		askAll(t, "another Limit", q, api.ErrArg)
		askAll(t, "another Limit, and all else", nothing(q), api.ErrArg)
		q.bound = -1
		askAll(t, "another Limit, and no bound", nothing(q), api.ErrArg)
		same(t, "Size", q.b.Size(), 0)
	}
}

// Of all but At.
func TestBounds(t *testing.T) {
	for _, bound := range []int{-1, api.MaxCount + 1, math.MaxInt, math.MinInt} {
		q := good(t)
		q.bound = bound
		for i := range 2 {
			askCheck(t, "no bound", q, api.ErrArg)
			askNone(t, "no bound", q, api.ErrArg)
			askPlaces(t, "no bound", q, api.ErrArg)
			askVerdicts(t, "no bound", q, api.ErrArg)
			askLies(t, "a bound plays no part", q, []api.Errno{api.OK, api.ErrRef}[i])
			q = nothing(q)
		}
	}
}

// Of all next: a ref that is not told, as the packets, and as the Where of any entry.
func TestRefsThatAreNotTold(t *testing.T) {
	for _, r := range untold() {
		q := good(t)
		q.packets = r
		askCheck(t, "packets", q, api.ErrRef)
		askNone(t, "packets", q, api.ErrRef)
		askPlaces(t, "packets", q, api.ErrRef)
		q.x, q.p, q.n, q.row, q.rows, q.kids, q.l = api.Topo{}, planOf([]int{9}), -1, nil, nil, nil, nil
		askCheck(t, "packets, and all else", q, api.ErrRef)
		askPlaces(t, "packets, and all else", q, api.ErrRef)
		for i := range 3 {
			q := good(t)
			q.l[i].Where = r
			askCheck(t, "an entry", q, api.ErrRef)
			askLies(t, "an entry", q, api.ErrRef)
			askVerdicts(t, "an entry", q, api.ErrRef)
			q.l[(i+1)%3] = entry(0, 0)
			q.header, q.compare = "", 0
			askCheck(t, "an entry, and another one that may not be", q, api.ErrRef)
			askLies(t, "an entry, and no header", q, api.ErrRef)
			askVerdicts(t, "an entry, and no compare", q, api.ErrRef)
		}
	}
	// Not told any more.
	q := good(t)
	if _, e := q.b.Keep(); e != api.OK {
		t.Fatal(e)
	}
	askAll(t, "behind a Keep", q, api.ErrRef)
	q.packets = 1
	askCheck(t, "entries behind a Keep", q, api.ErrRef)
	askNodes(t, "entries behind a Keep", q, api.ErrRef)
	askWholes(t, "classes behind a Keep", q, api.ErrRef)
	q.kids, q.l = [][]api.Entry{{entry(1, 1)}}, nil
	askNodes(t, "classes behind a Keep", q, api.ErrRef)
	askNone(t, "yes behind a Keep", q, api.OK)
	askLies(t, "nothing behind a Keep", q, api.OK)
}

// Of Node, all refs come ahead of all that is said of it alone.
func TestRefsOfKids(t *testing.T) {
	for _, r := range untold() {
		q := good(t)
		b, x := q.b, mesh(t, 2)
		q.x, q.p, q.n = x, planOf(nil, node(1, 0, 0, true, 1, 2), node(2, 1, 0, true), node(2, 2, 0, true)), 0
		q.packets = 1
		kids := func() [][]api.Entry {
			return [][]api.Entry{entries(t, b, 2, "00:{0} 01:{1} 1x:{2}"), entries(t, b, 2, "xx:{1}")}
		}
		q.kids = kids()
		askNodes(t, "two Kids", q, api.OK)
		for _, at := range [][2]int{{0, 0}, {0, 2}, {1, 0}} {
			q.kids = kids()
			q.kids[at[0]][at[1]].Where = r
			askNodes(t, "a Kid's entry", q, api.ErrRef)
			q.kids[0][1].Counts = 0
			askNodes(t, "a Kid's entry, and one that may not be", q, api.ErrRef)
			q.kids = append(q.kids, nil)
			askNodes(t, "a Kid's entry, and too many Kids", q, api.ErrRef)
			bad := q
			bad.x, bad.p, bad.n, bad.row = api.Topo{}, planOf([]int{9}), -1, nil
			askNodes(t, "a Kid's entry, and all else", bad, api.ErrRef)
		}
		q.kids = [][]api.Entry{nil, {entry(r, 1)}}
		askNodes(t, "the second Kid's, and none of the first", q, api.ErrRef)
	}
}

// P17.2 and P17.3: plan.Check's error.
func TestOverNoTopology(t *testing.T) {
	for what, put := range map[string]func(x *api.Topo){
		"nothing":             func(x *api.Topo) { *x = api.Topo{} },
		"no devices":          func(x *api.Topo) { x.Devices, x.Links = nil, nil },
		"no width":            func(x *api.Topo) { x.Width = 0 },
		"a width too great":   func(x *api.Topo) { x.Width = api.MaxBits + 1 },
		"devices that fall":   func(x *api.Topo) { x.Devices[0].Name = "z" },
		"no port's name":      func(x *api.Topo) { x.Devices[0].Ports[0] = "p p" },
		"ports that fall":     func(x *api.Topo) { slices.Reverse(x.Devices[1].Ports) },
		"a link to nobody":    func(x *api.Topo) { x.Links[1].B = 3 },
		"a link from nobody":  func(x *api.Topo) { x.Links[0].A = -1 },
		"a link to no port":   func(x *api.Topo) { x.Links[1].PortB = "q" },
		"links that fall":     func(x *api.Topo) { slices.Reverse(x.Links) },
		"a port linked twice": func(x *api.Topo) { x.Links[1].PortA = "p" },
		"too many devices":    func(x *api.Topo) { x.Devices = make([]api.Device, api.MaxDevices+1) },
		"too many links":      func(x *api.Topo) { x.Links = make([]api.Link, api.MaxLinks+1) },
	} {
		q := good(t)
		put(&q.x)
		askPlaces(t, what, q, api.ErrTopo)
		q.p, q.n, q.row, q.rows, q.kids = planOf([]int{9}), -1, nil, nil, nil
		askPlaces(t, what+", and all else", q, api.ErrTopo)
	}
}

func TestOfNoPlan(t *testing.T) {
	for what, put := range map[string]func(p *api.Plan){
		"too many nodes":       func(p *api.Plan) { p.Nodes = make([]api.PlanNode, api.MaxPlan+1) },
		"nodes that fall":      func(p *api.Plan) { p.Nodes[0], p.Nodes[2] = p.Nodes[2], p.Nodes[0] },
		"nodes alike":          func(p *api.Plan) { p.Nodes = append(p.Nodes, p.Nodes[2]) },
		"a Level below 1":      func(p *api.Plan) { *p = planOf(nil, node(0, 0, 0, true)) },
		"a Level above 65":     func(p *api.Plan) { *p = planOf(nil, node(66, 0, 0, true)) },
		"no such Device":       func(p *api.Plan) { p.Nodes[2].Device = 3 },
		"a State below 0":      func(p *api.Plan) { p.Nodes[1].State = -1 },
		"a Kid below 0":        func(p *api.Plan) { p.Nodes[0].Kids = []int{-1} },
		"a Kid of no node":     func(p *api.Plan) { p.Nodes[2].Kids = []int{math.MaxInt} },
		"its own Kid":          func(p *api.Plan) { p.Nodes[1].Kids = []int{1} },
		"a Kid ahead":          func(p *api.Plan) { p.Nodes[1].Kids = []int{0} },
		"a Kid that is far":    func(p *api.Plan) { p.Nodes[1].Device = 2 },
		"Kids at one Device":   func(p *api.Plan) { p.Nodes[1].Kids = []int{2, 3}; p.Nodes = append(p.Nodes, node(3, 2, 9, true)) },
		"no Accept and no Kid": func(p *api.Plan) { p.Nodes[2].Accept = false },
		"a Root of no node":    func(p *api.Plan) { p.Roots[0] = 3 },
		"Roots without nodes":  func(p *api.Plan) { p.Nodes = nil },
	} {
		q := good(t)
		put(&q.p)
		askPlaces(t, what, q, api.ErrPlan)
		q.x.Width, q.n, q.row, q.rows, q.kids = 3, -1, nil, nil, nil
		askPlaces(t, what+", and all else", q, api.ErrPlan)
	}
}

func TestWidths(t *testing.T) {
	for _, width := range []int{1, 3, api.MaxBits} {
		q := good(t)
		q.x.Width = width
		askPlaces(t, "another width", q, api.ErrWidth)
		q.n, q.row, q.rows, q.kids = -1, nil, nil, nil
		askPlaces(t, "another width, and all else", q, api.ErrWidth)
	}
}

// P17.2

func TestPlacesThatAreNone(t *testing.T) {
	for _, n := range []int{-1, 3, 1 << 20, math.MaxInt, math.MinInt} {
		q := good(t)
		q.n = n
		askNodes(t, "no place", q, api.ErrRange)
		q.row, q.kids = nil, nil
		askNodes(t, "no place, and all else", q, api.ErrRange)
	}
	q := good(t)
	q.p, q.n = api.Plan{}, 0
	askNodes(t, "of no places", q, api.ErrRange)
}

// wrongRows are classes that may not be, of a good question's table.
func wrongRows(t *testing.T, b *bdd.Table) map[api.Errno][][]api.Class {
	t.Helper()
	low, high := setOf(t, b, "0x"), setOf(t, b, "1x")
	drop, deliver := api.Action{Kind: api.Drop}, api.Action{Kind: api.Deliver}
	l := map[api.Errno][][]api.Class{api.ErrClasses: {
		nil, {},
		{{Where: low, Action: drop}},
		{{Where: low, Action: drop}, {Where: 1, Action: deliver}},
		{{Where: low, Action: deliver}, {Where: high, Action: drop}},
		{{Where: low, Action: drop}, {Where: high, Action: drop}},
		{{Where: 0, Action: drop}, {Where: 1, Action: deliver}},
		{{Where: 1}}, {{Where: 1, Action: api.Action{Kind: 5}}},
		{{Where: 1, Action: api.Action{Kind: api.All}}},
		{{Where: 1, Action: api.Action{Kind: api.Any, Ports: []string{"q", "p"}}}},
		{{Where: 1, Action: api.Action{Kind: api.Drop, Ports: []string{"p"}}}},
	}}
	for _, r := range untold() {
		l[api.ErrRef] = append(l[api.ErrRef], []api.Class{{Where: r, Action: drop}}, []api.Class{{Where: low, Action: deliver}, {Where: 0}, {Where: r}})
	}
	return l
}

func TestClassesThatMayNotBe(t *testing.T) {
	q := good(t)
	for want, rows := range wrongRows(t, q.b) {
		for _, row := range rows {
			bad := q
			bad.row = row
			askNodes(t, fmt.Sprint("classes ", row), bad, want)
			bad.kids = nil
			askNodes(t, fmt.Sprint("classes ", row, ", and no Kids"), bad, want)
			bad.kids = [][]api.Entry{{entry(0, 0)}}
			askNodes(t, fmt.Sprint("classes ", row, ", and no entries"), bad, want)
			for i := range 3 {
				bad.rows = slices.Clone(q.rows)
				bad.rows[i] = row
				askWholes(t, fmt.Sprint("classes ", row), bad, want)
			}
		}
	}
}

func TestTooFewKidsAndTooMany(t *testing.T) {
	q := good(t)
	one := q.kids[0]
	for n := range 5 {
		q.kids = slices.Repeat([][]api.Entry{one}, n)
		askNodes(t, fmt.Sprint(n, " Kids"), q, map[bool]api.Errno{false: api.ErrKids}[n == 1])
		q.kids = make([][]api.Entry, n)
		askNodes(t, fmt.Sprint(n, " Kids of no entries"), q, map[bool]api.Errno{false: api.ErrKids, true: api.ErrEntries}[n == 1])
	}
	q.n = 2
	q.row = q.rows[2]
	for n := range 3 {
		q.kids = slices.Repeat([][]api.Entry{one}, n)
		askNodes(t, fmt.Sprint(n, " Kids, where there are none"), q, map[bool]api.Errno{false: api.ErrKids}[n == 0])
	}
}

// P17.1 and P17.2: entries that are no result of packets.

// wrongEntries are some of each kind that may not be, of the packets 1x and 01, with the bound 2.
func wrongEntries(t *testing.T, b *bdd.Table) map[string][]api.Entry {
	t.Helper()
	at := func(text string) []api.Entry { return entries(t, b, 2, text) }
	with := func(text string, where api.Ref, c api.Counts) []api.Entry { return append(at(text), entry(where, c)) }
	return map[string][]api.Entry{
		"none":                      nil,
		"no headers":                {entry(0, 1)},
		"no headers beside all":     with("1x+01:{0}", 0, 2),
		"no headers ahead":          append([]api.Entry{entry(0, 1)}, at("1x+01:{1}")...),
		"too few":                   at("1x:{0}"),
		"too few, of two":           at("10:{0} 01:{1}"),
		"too many":                  at("xx:{0}"),
		"too many, of two":          at("1x:{0} 0x:{1}"),
		"others":                    at("00:{0}"),
		"as many others":            at("10:{0} 0x:{1}"),
		"two meet":                  at("1x:{0} x1:{1}"),
		"two meet, all are there":   at("11+10:{0} 11+01:{1}"),
		"two are alike":             at("1x+01:{0} 1x+01:{1}"),
		"two of three meet":         at("10:{0} 01:{1} 11+01:{2}"),
		"meet, and one is missing":  at("11:{0} 01:{1} 11+01:{2}"),
		"no Counts":                 with("", setOf(t, b, "1x", "01"), 0),
		"no Counts of a second one": with("1x:{0}", setOf(t, b, "01"), 0),
		"Counts above the bound":    with("1x:{0}", setOf(t, b, "01"), 1<<4),
		"far above it":              with("1x:{0}", setOf(t, b, "01"), 1<<63),
		"above it beside others":    with("1x:{0}", setOf(t, b, "01"), 1<<4+1),
		"all bits":                  with("", setOf(t, b, "1x", "01"), math.MaxUint64),
		"Counts alike":              at("1x:{1} 01:{1}"),
		"Counts that fall":          at("1x:{1} 01:{0}"),
		"Counts that fall at last":  at("11:{0} 10:{2} 01:{0,1}"),
		"Counts alike at last":      at("11:{0} 10:{2} 01:{2}"),
	}
}

func TestEntriesThatAreNoResult(t *testing.T) {
	q := good(t)
	kids := planOf(nil, node(1, 0, 0, true, 1, 2), node(2, 1, 0, true), node(2, 2, 0, true))
	for what, l := range wrongEntries(t, q.b) {
		bad := q
		bad.l = l
		askCheck(t, what, bad, api.ErrEntries)
		bad.kids = [][]api.Entry{l}
		askNodes(t, what, bad, api.ErrEntries)
		bad.x, bad.p, bad.n, bad.row = mesh(t, 2), kids, 0, q.rows[0]
		for _, both := range [][][]api.Entry{{l, q.kids[0]}, {q.kids[0], l}, {l, l}, {l, nil}} {
			bad.kids = both
			askNodes(t, what+", of two Kids", bad, api.ErrEntries)
		}
		// What no port leads to is asked nevertheless.
		bad.kids, bad.row = [][]api.Entry{l, q.kids[0]}, rowOf(t, q.b, "drop")
		askNodes(t, what+", where all is dropped", bad, api.ErrEntries)
	}
	// A result of other packets.
	for _, packets := range []api.Ref{0, 1, setOf(t, q.b, "1x"), setOf(t, q.b, "0x"), setOf(t, q.b, "00")} {
		bad := q
		bad.packets = packets
		askCheck(t, "other packets", bad, api.ErrEntries)
		askNodes(t, "other packets", bad, api.ErrEntries)
	}
	// With another bound.
	bad := q
	bad.bound, bad.kids = 1, [][]api.Entry{entries(t, q.b, 2, "1x:{0} 01:{>2}")}
	askNodes(t, "another bound", bad, api.ErrEntries)
	bad.l = entries(t, q.b, 2, "1x:{0} 01:{>2}")
	askCheck(t, "another bound", bad, api.ErrEntries)
	bad.bound = 62
	askCheck(t, "a greater bound", bad, api.OK)
	bad.packets, bad.l = 0, nil
	askCheck(t, "no packets", bad, api.OK)
	bad.l = []api.Entry{entry(0, 1)}
	askCheck(t, "no packets, an entry of none", bad, api.ErrEntries)
}

// P17.3

func TestTooFewRowsAndTooMany(t *testing.T) {
	q := good(t)
	rows := q.rows
	for n := range 6 {
		if n == 3 {
			continue
		}
		q.rows = slices.Concat(rows, rows)[:n]
		askWholes(t, fmt.Sprint(n, " rows"), q, api.ErrFibs)
		q.rows = make([][]api.Class, n)
		askWholes(t, fmt.Sprint(n, " rows that may not be"), q, api.ErrFibs)
	}
	// Rows of all devices are asked, also of those that have no place.
	q.rows = slices.Clone(rows)
	q.p = planOf(nil, node(1, 0, 0, true))
	askWholes(t, "one place", q, api.OK)
	q.rows[2] = nil
	askWholes(t, "no classes of a device without a place", q, api.ErrClasses)
	q.p = api.Plan{}
	askWholes(t, "no classes, and no place", q, api.ErrClasses)
}

// The first row that is refused, be it what it may.
func TestTheFirstRowThatMayNotBe(t *testing.T) {
	q := good(t)
	rows := q.rows
	for i, first := range []api.Errno{api.ErrClasses, api.ErrRef} {
		wrong := [][]api.Class{{{Where: 1}}, {{Where: -1}}}
		q.rows = slices.Clone(rows)
		q.rows[1], q.rows[2] = wrong[i], wrong[1-i]
		askWholes(t, "two rows", q, first)
		q.rows[0] = wrong[1-i]
		askWholes(t, "three rows", q, []api.Errno{api.ErrRef, api.ErrClasses}[i])
	}
}

// P17.4

func TestHeadersThatAreNone(t *testing.T) {
	q := good(t)
	for _, h := range []string{"", "1", "101", "1x", "xx", "2 ", "1\x00", "1\xff", "é", "11 ", strings.Repeat("1", api.MaxBits), strings.Repeat("0", 1<<16)} {
		q.header = h
		for _, l := range [][]api.Entry{q.l, nil, {entry(1, 1)}, {entry(0, 0)}} {
			bad := q
			bad.l = l
			askLies(t, fmt.Sprintf("the header %.20q", h), bad, api.ErrText)
		}
	}
}

// P17.5

func TestCountsThatMayNotBe(t *testing.T) {
	for _, c := range []struct {
		bound  int
		counts api.Counts
	}{{2, 0}, {2, 1 << 4}, {2, 1<<4 + 1}, {2, 1 << 63}, {0, 4}, {0, 0}, {61, 1 << 63}, {62, 0}} {
		for i := range 3 {
			q := good(t)
			q.l = entries(t, q.b, 0, "01:{0} 10:{>0} 11:{0,>0}")
			q.bound = c.bound
			q.l[i].Counts = c.counts
			askVerdicts(t, fmt.Sprint("counts ", c), q, api.ErrCounts)
			q.compare = 0
			askVerdicts(t, fmt.Sprint("counts ", c, ", and no compare"), q, api.ErrCounts)
			askLies(t, "Counts play no part", q, api.OK)
		}
	}
	// Also behind one that breaks it.
	q := good(t)
	q.l = []api.Entry{entry(1, 1), entry(1, 0)}
	askVerdicts(t, "behind one that breaks it", q, api.ErrCounts)
}

func TestCompares(t *testing.T) {
	for _, compare := range []int{0, 4, -1, math.MaxInt, math.MinInt} {
		q := good(t)
		q.compare = compare
		askVerdicts(t, "no compare", q, api.ErrCompare)
		q.l = nil
		askVerdicts(t, "no compare, no entries", q, api.ErrCompare)
		q.l = []api.Entry{entry(0, 1)}
		askVerdicts(t, "no compare, no headers", q, api.ErrCompare)
	}
}

// Rule 2: with an error nothing is told beside it, and the table answers as it did.
func TestWithAnErrorNothingHasChanged(t *testing.T) {
	q := good(t)
	size := q.b.Size()
	for _, f := range []fault{noBound, noPackets, noKid, noTopo, noPlan, noWidth, noPlace, noEntries} {
		bad := q
		bad.kids = [][]api.Entry{slices.Clone(q.kids[0])}
		bad.l, bad.x.Links, bad.p.Roots = slices.Clone(q.l), slices.Clone(q.x.Links), slices.Clone(q.p.Roots)
		f.put(&bad)
		askNodes(t, "a fault", bad, f.want)
		engine.Check(bad.b, bad.packets, bad.l, bad.bound)
		engine.Whole(bad.b, bad.x, bad.p, bad.packets, nil, bad.bound)
	}
	same(t, "Size", q.b.Size(), size)
	askAll(t, "behind all faults", q, api.OK)
}
