package engine_test

import (
	"fmt"
	"slices"
	"strings"
	"testing"

	"milestone/api"
	"milestone/engine"
	"milestone/topo"
)

// P17.2, P17.3 and P17.5: the chapter's example.
func TestExample(t *testing.T) {
	b, x := newTable(t, 2), inRow(t)
	p := made(t, x, "a .* c", 3, "a c")
	want := "0x:{0} 1x:{1}"
	askNode(t, "the place of c", b, x, p, 2, 1, "rule 0 1x deliver;rule 0 0x drop", 1, want)
	rows := rowsOf(t, b, x, "all(p)", "any(q,r)", "rule 0 1x deliver;rule 0 0x drop")
	l := whole(t, b, x, p, 1, rows, 1)
	same(t, "the place of c", said(b, 1, l[2]...), want)
	askVerdict(t, b, l[2], 1, api.Equal, breaks("00", 0))
	askWhole(t, "the row", b, x, p, 1, rows, 1, "0x:{0} 1x:{0,1} | 0x:{0} 1x:{0,1} | 0x:{0} 1x:{1}")
}

// P17.1

func TestCheck(t *testing.T) {
	b := newTable(t, 2)
	for _, c := range []struct {
		packets string
		bound   int
		l       string
	}{
		{"xx", 1, "xx:{0}"}, {"xx", 1, "xx:{1}"}, {"xx", 1, "xx:{>1}"}, {"xx", 1, "xx:{0,1,>1}"},
		{"xx", 1, "1x:{0} 0x:{1}"}, {"xx", 1, "00:{0} 11:{1} 01:{0,1} 10:{>1}"},
		{"1x", 1, "11:{0} 10:{1}"}, {"1x+01", 1, "11+01:{0,1} 10:{>1}"}, {"10", 1, "10:{0}"},
		{"xx", 0, "x0:{0} x1:{>0}"}, {"xx", 62, "00:{0} 01:{62} 1x:{>62}"}, {"xx", 62, "x0:{0,1,2,62} x1:{>62}"},
	} {
		packets := setOf(t, b, strings.Split(c.packets, "+")...)
		same(t, "Check of "+c.l, engine.Check(b, packets, entries(t, b, c.bound, c.l), c.bound), api.OK)
	}
	// All counts that there are rise by their numbers.
	var all []api.Entry
	for i, h := range headersOf(2) {
		all = append(all, api.Entry{Where: setOf(t, b, h), Counts: []api.Counts{1, 3, 1 << 62, 1<<64 - 1}[i]})
	}
	same(t, "Check of the greatest counts", engine.Check(b, 1, all, api.MaxCount), api.OK)
	same(t, "Check of no entries of no packets", engine.Check(b, 0, nil, 1), api.OK)
	same(t, "Check of no entries of no packets", engine.Check(b, 0, []api.Entry{}, 1), api.OK)
}

func TestCheckOfManyEntries(t *testing.T) {
	b := newTable(t, 12)
	var l []api.Entry
	for i, h := range headersOf(12) {
		l = append(l, api.Entry{Where: setOf(t, b, h), Counts: api.Counts(i + 1)})
	}
	same(t, "Check", engine.Check(b, 1, l, 62), api.OK)
	askAt(t, b, l, "111111111110", 4095, true)
	for _, i := range []int{0, 1, 2047, 4094, 4095} {
		without := slices.Delete(slices.Clone(l), i, i+1)
		same(t, "Check without one", engine.Check(b, 1, without, 62), api.ErrEntries)
		others, _ := b.Not(l[i].Where)
		same(t, "Check of all others", engine.Check(b, others, without, 62), api.OK)
		twice := slices.Clone(l)
		twice[i].Where, _ = b.Or(l[i].Where, l[(i+999)%4096].Where)
		same(t, "Check with one twice", engine.Check(b, 1, twice, 62), api.ErrEntries)
	}
}

func TestNone(t *testing.T) {
	b := newTable(t, 2)
	for _, packets := range [][]string{{"xx"}, {"10"}, {"1x", "01"}} {
		for _, bound := range []int{0, 1, 7, 62} {
			r := setOf(t, b, packets...)
			l, e := engine.None(b, r, bound)
			if e != api.OK || !slices.Equal(l, []api.Entry{{Where: r, Counts: 1}}) {
				t.Errorf("None(%s, %d) = %v, %v", packets, bound, l, e)
			}
			same(t, "Check", engine.Check(b, r, l, bound), api.OK)
			askVerdict(t, b, l, bound, api.Most, right)
		}
	}
	if l, e := engine.None(b, 0, 1); e != api.OK || len(l) != 0 {
		t.Errorf("None of no packets = %v, %v", l, e)
	}
	// It is what a place comes to whose device drops all.
	askNode(t, "all dropped", b, inRow(t), planOf(nil, node(1, 0, 0, true)), 0, setOf(t, b, "1x"), "drop", 3, "1x:{0}")
}

// P17.2

// Each kind of action, at a place with Accept and at one without, with one Kid, two, and none.
func TestWhatADeviceDoes(t *testing.T) {
	b, x := newTable(t, 2), mesh(t, 2)
	for _, ask := range []struct{ does, both, b, none string }{
		{"", "xx:{0}", "xx:{0}", "xx:{0}"},
		{"drop", "xx:{0}", "xx:{0}", "xx:{0}"},
		{"all(p)", "0x:{0} 1x:{1}", "0x:{0} 1x:{1}", "xx:{0}"},
		{"all(p,q)", "0x:{0} 1x:{2}", "0x:{0} 1x:{2}", "xx:{0}"},
		{"all(r)", "x0:{0} x1:{1,2}", "xx:{0}", "xx:{0}"},
		{"all(p,q,r)", "00:{0} 10:{2} 01:{1,2} 11:{3,4}", "0x:{0} 1x:{2}", "xx:{0}"},
		{"all(p,r,s,v)", "00:{0} 10:{1} 01:{1,2} 11:{2,3}", "0x:{0} 1x:{1}", "xx:{0}"},
		{"all(s)", "xx:{0}", "xx:{0}", "xx:{0}"},
		{"all(v)", "xx:{0}", "xx:{0}", "xx:{0}"},
		{"all(s,v)", "xx:{0}", "xx:{0}", "xx:{0}"},
		{"any(p)", "0x:{0} 1x:{1}", "0x:{0} 1x:{1}", "xx:{0}"},
		{"any(p,q)", "0x:{0} 1x:{1}", "0x:{0} 1x:{1}", "xx:{0}"},
		{"any(p,r)", "00:{0} 10:{0,1} 11:{1,2} 01:{0,1,2}", "0x:{0} 1x:{0,1}", "xx:{0}"},
		{"any(r)", "x0:{0} x1:{1,2}", "xx:{0}", "xx:{0}"},
		{"any(p,q,r)", "00:{0} 10:{0,1} 11:{1,2} 01:{0,1,2}", "0x:{0} 1x:{0,1}", "xx:{0}"},
		{"any(p,s)", "0x:{0} 1x:{0,1}", "0x:{0} 1x:{0,1}", "xx:{0}"},
		{"any(q,r,v)", "00:{0} 10:{0,1} x1:{0,1,2}", "0x:{0} 1x:{0,1}", "xx:{0}"},
		{"any(s,v)", "xx:{0}", "xx:{0}", "xx:{0}"},
	} {
		ofB, ofC := "0x:{0} 1x:{1}", "x0:{0} x1:{1,2}"
		for _, accept := range []bool{false, true} {
			what := fmt.Sprintf("a does %s, Accept: %v", ask.does, accept)
			p := planOf(nil, node(1, 0, 0, accept, 1, 2), node(2, 1, 0, true), node(2, 2, 0, true))
			askNode(t, what, b, x, p, 0, 1, ask.does, 5, ask.both, ofB, ofC)
			p.Nodes[0].Kids = []int{1}
			askNode(t, what, b, x, p, 0, 1, ask.does, 5, ask.b, ofB)
		}
		askNode(t, ask.does, b, x, planOf(nil, node(1, 0, 0, true)), 0, 1, ask.does, 5, ask.none)
	}
}

func TestDeliver(t *testing.T) {
	b, x := newTable(t, 2), mesh(t, 2)
	p := planOf([]int{0, 1}, node(1, 0, 0, false, 2), node(1, 0, 1, true, 2), node(2, 1, 0, true))
	for _, bound := range []int{1, 2, 62} {
		askNode(t, "without Accept", b, x, p, 0, 1, "deliver", bound, "xx:{0}", "xx:{1}")
		askNode(t, "with Accept", b, x, p, 1, 1, "deliver", bound, "xx:{1}", "xx:{0}")
		askNode(t, "with Accept, in part", b, x, p, 1, 1, "rule 5 1x deliver", bound, "0x:{0} 1x:{1}", "xx:{0}")
		askNode(t, "without Kids", b, x, p, 2, 1, "rule 5 1x deliver;rule 4 xx all(p)", bound, "0x:{0} 1x:{1}")
	}
	// One copy is cut, too.
	askNode(t, "the bound 0", b, x, p, 1, 1, "rule 5 1x deliver", 0, "0x:{0} 1x:{>0}", "xx:{>0}")
}

// Of different classes, and of different Kids, which come out alike: one entry.
func TestAlikeCountsAreOneEntry(t *testing.T) {
	b, x := newTable(t, 2), mesh(t, 2)
	p := planOf(nil, node(1, 0, 0, true, 1, 2), node(2, 1, 0, true), node(2, 2, 0, true))
	askNode(t, "Drop, and Deliver", b, x, p, 0, 1, "rule 1 1x deliver", 5, "0x:{0} 1x:{1}", "xx:{0}", "xx:{0}")
	askNode(t, "Drop, and ports that lead nowhere", b, x, p, 0, 1, "rule 1 1x all(s);rule 1 01 any(s,v)", 5, "xx:{0}", "xx:{1}", "xx:{2}")
	askNode(t, "four classes", b, x, p, 0, 1, "rule 1 00 deliver;rule 1 01 all(p);rule 1 10 any(r);rule 1 11 all(p,r)", 5, "xx:{1}", "11:{0} 0x+10:{1}", "xx:{1}")
	askNode(t, "sums of either Kid", b, x, p, 0, 1, "all(p,r)", 5, "0x:{1} 1x:{3}", "00+10:{0} 01:{1} 11:{3}", "01+11:{0} 00:{1} 10:{3}")
	askNode(t, "sums above the bound", b, x, p, 0, 1, "all(p,q,r)", 2, "00:{0} 01:{2} 1x:{>2}", "00:{0} 01:{1} 11:{2} 10:{>2}", "0x:{0} 1x:{1}")
	askNode(t, "unions", b, x, p, 0, 1, "any(p,r)", 5, "xx:{0,1}", "1x:{0} 0x:{1}", "0x:{0} 1x:{1}")
	askNode(t, "classes by one Kid", b, x, p, 0, 1, "rule 1 1x all(p);rule 1 0x all(q)", 5, "x0:{0} x1:{1}", "x0:{0} x1:{1}", "xx:{3}")
	askNode(t, "classes by two Kids", b, x, p, 0, 1, "rule 1 1x all(p);rule 1 0x all(r)", 5, "00+11:{0} 01+10:{1}", "x1:{0} x0:{1}", "x0:{0} x1:{1}")
}

func TestPackets(t *testing.T) {
	b, x := newTable(t, 2), mesh(t, 2)
	p := planOf(nil, node(1, 0, 0, true, 1, 2), node(2, 1, 0, true), node(2, 2, 0, true))
	row := "rule 2 00 drop;rule 2 11 deliver;rule 1 xx all(p,r)"
	askNode(t, "no packets", b, x, p, 0, 0, row, 5, "", "", "")
	askNode(t, "one", b, x, p, 0, setOf(t, b, "01"), row, 5, "01:{3}", "01:{1}", "01:{2}")
	askNode(t, "one that is delivered", b, x, p, 0, setOf(t, b, "11"), row, 5, "11:{1}", "11:{4}", "11:{4}")
	askNode(t, "some", b, x, p, 0, setOf(t, b, "0x"), row, 5, "00:{0} 01:{3}", "01:{1} 00:{2}", "0x:{2}")
	askNode(t, "others", b, x, p, 0, setOf(t, b, "1x", "01"), row, 5, "11:{1} 01:{2} 10:{4}", "1x+01:{2}", "01:{0} 1x:{2}")
	askNode(t, "all", b, x, p, 0, 1, row, 5, "00:{0} 11:{1} 01:{2} 10:{4}", "xx:{2}", "0x:{0} 1x:{2}")
	askNode(t, "no packets, no Kids", b, x, p, 1, 0, row, 5, "")
	askWhole(t, "no packets", b, x, p, 0, rowsOf(t, b, x, row, row, row), 5, " |  | ")
}

// A port leads to whom its link leads to, whichever end of it that is; to none without a link, and to none that is no Kid.
func TestPorts(t *testing.T) {
	b, x := newTable(t, 2), mesh(t, 2)
	p := planOf(nil, node(1, 1, 0, true, 2, 3), node(1, 2, 0, true, 2), node(2, 0, 0, true), node(2, 1, 0, true))
	for does, want := range map[string]string{
		"all(p)": "xx:{1}", "all(q)": "xx:{1}", "all(r)": "xx:{0}", "all(t)": "xx:{2}", "all(u)": "xx:{2}",
		"all(t,u)": "xx:{4}", "any(t,u)": "xx:{2}", "any(p,u)": "xx:{1,2}", "all(p,q,r,t,u)": "xx:{>5}", "any(r,t)": "xx:{0,2}",
	} {
		askNode(t, "b does "+does, b, x, p, 0, 1, does, 5, want, "xx:{1}", "xx:{2}")
	}
	for does, want := range map[string]string{"all(p)": "xx:{3}", "all(q)": "xx:{0}", "all(s)": "xx:{0}", "any(p,q)": "xx:{0,3}", "all(p,q,s)": "xx:{3}"} {
		askNode(t, "c does "+does, b, x, p, 1, 1, does, 5, want, "xx:{3}")
	}
	// All ports that a device may have, to one Kid.
	var ports, links []string
	for i := range api.MaxPorts {
		ports = append(ports, fmt.Sprintf("p%02d", i))
		links = append(links, fmt.Sprintf("a.p%02d-b.p%02d", i, api.MaxPorts-1-i))
	}
	y := network(t, 2, "a:"+strings.Join(ports, ",")+" b:"+strings.Join(ports, ","), strings.Join(links, " "))
	q := planOf(nil, node(1, 0, 0, false, 1), node(2, 1, 0, true))
	every := strings.Join(ports, ",")
	askNode(t, "64 ports, all", b, y, q, 0, 1, "all("+every+")", 62, "xx:{>62}", "xx:{1}")
	askNode(t, "62 ports, all", b, y, q, 0, 1, "all("+strings.Join(ports[2:], ",")+")", 62, "xx:{62}", "xx:{1}")
	askNode(t, "64 ports, any", b, y, q, 0, 1, "any("+every+")", 62, "xx:{1,3}", "xx:{1,3}")
}

// The greatest bound, where counts have all bits.
func TestMaxCount(t *testing.T) {
	b, x := newTable(t, 2), mesh(t, 2)
	p := planOf(nil, node(1, 0, 0, true, 1, 2), node(2, 1, 0, true), node(2, 2, 0, true))
	askNode(t, "sums", b, x, p, 0, 1, "all(p,r)", 62, "0x:{62} 1x:{>62}", "0x:{61} 1x:{62}", "xx:{1}")
	askNode(t, "unions", b, x, p, 0, 1, "any(p,r)", 62, "0x:{1,61} 1x:{1,>62}", "0x:{61} 1x:{>62}", "xx:{1}")
	askNode(t, "alike above", b, x, p, 0, 1, "all(p,q,r)", 62, "xx:{>62}", "0x:{40} 1x:{>62}", "xx:{0,62}")
	askNode(t, "the bound 0", b, x, p, 0, 1, "all(p,q,r)", 0, "00:{0} 01+1x:{>0}", "0x:{0} 1x:{>0}", "x0:{0} x1:{>0}")
	askNode(t, "the bound 0, any", b, x, p, 0, 1, "any(p,r)", 0, "00:{0} 11:{>0} 01+10:{0,>0}", "0x:{0} 1x:{>0}", "x0:{0} x1:{>0}")
}

// P17.3

func TestWholePlans(t *testing.T) {
	b, x := newTable(t, 2), mesh(t, 2)
	p := made(t, x, "a b? c", 2, "a")
	same(t, "the plan", fmt.Sprint(p), "{[{1 0 1 false [1 2]} {2 1 2 false [3]} {2 2 3 true []} {3 2 3 true []}] [0]}")
	rows := rowsOf(t, b, x, "rule 1 1x all(p,q,r);rule 1 0x any(p,r)", "rule 1 x1 any(r,t);rule 1 x0 all(r)", "deliver")
	askWhole(t, "two may come or not", b, x, p, 1, rows, 9, "00:{1} 01:{0,1} 10:{3} 11:{1,2,3} | x0:{1} x1:{0,1} | xx:{1} | xx:{1}")
	askWhole(t, "cut", b, x, p, 1, rows, 1, "00:{1} 01:{0,1} 10:{>1} 11:{1,>1} | x0:{1} x1:{0,1} | xx:{1} | xx:{1}")
	askWhole(t, "of some", b, x, p, setOf(t, b, "11"), rows, 9, "11:{1,2,3} | 11:{0,1} | 11:{1} | 11:{1}")
	askWhole(t, "of no plan's places", b, x, planOf([]int{-1, -1}), 1, rows, 9, "")
	// A link of a device with itself: it comes round.
	p = made(t, x, "b b b c", 3, "b")
	askWhole(t, "round", b, x, p, 1, rowsOf(t, b, x, "", "all(r,t,u)", "deliver"), 9, "xx:{4} | xx:{2} | xx:{1} | xx:{1}")
	// No rules at all.
	askWhole(t, "no rules", b, x, p, 1, rowsOf(t, b, x), 9, "xx:{0} | xx:{0} | xx:{0} | xx:{0}")
}

// The greatest plan over the greatest network.
func TestTheGreatestPlan(t *testing.T) {
	const devices = 252
	x := api.Topo{Width: 2}
	for i := range devices {
		d := api.Device{Name: fmt.Sprintf("d%03d", i)}
		for port := range api.MaxPorts {
			d.Ports = append(d.Ports, fmt.Sprintf("p%02d", port))
		}
		x.Devices = append(x.Devices, d)
	}
	// Round a ring, each to the 16 behind it.
	for i := range devices {
		for k := range 16 {
			l := api.Link{A: i, PortA: fmt.Sprintf("p%02d", k), B: (i + k + 1) % devices, PortB: fmt.Sprintf("p%02d", 16+k)}
			if l.A > l.B {
				l = api.Link{A: l.B, PortA: l.PortB, B: l.A, PortB: l.PortA}
			}
			x.Links = append(x.Links, l)
		}
	}
	slices.SortFunc(x.Links, func(a, b api.Link) int {
		return strings.Compare(fmt.Sprintf("%03d %s", a.A, a.PortA), fmt.Sprintf("%03d %s", b.A, b.PortA))
	})
	same(t, "the network", topo.Check(x), api.OK)
	p := made(t, x, ".*", api.MaxHops, "d000 d001")
	b := newTable(t, 2)
	var ports []string
	for i := range 32 {
		ports = append(ports, fmt.Sprintf("p%02d", i))
	}
	all := "all(" + strings.Join(ports, ",") + ")"
	rows := make([]string, devices)
	for i := range rows {
		rows[i] = "rule 2 00 drop;rule 1 01 all(p00);rule 1 10 " + all
	}
	rows[2] = "rule 1 x1 deliver;rule 1 10 deliver"
	l := whole(t, b, x, p, 1, rowsOf(t, b, x, rows...), 62)
	// From d000 each of 01 goes round the ring to d002; of 10 there come without end.
	same(t, "a root", said(b, 62, l[p.Roots[0]]...), "00+11:{0} 01:{1} 10:{>62}")
	last := slices.IndexFunc(p.Nodes, func(n api.PlanNode) bool { return n.Level == 65 && n.Device == 2 })
	same(t, "a last place", said(b, 62, l[last]...), "00:{0} 01+1x:{1}")
}

// As many bits as may be, in a table that has told much else.
func TestMaxBits(t *testing.T) {
	every := strings.Repeat("x", api.MaxBits)
	b, x := newTable(t, api.MaxBits), network(t, api.MaxBits, "a:p b:p,q,r c:p", "a.p-b.p b.q-c.p")
	p := made(t, x, "a .* c", 3, "a c")
	first, last := "1"+every[1:], every[1:]+"1"
	rows := rowsOf(t, b, x, "all(p)", "rule 2 "+first+" any(q,r);rule 1 "+last+" all(q)", "deliver")
	want := "0" + every[2:] + "0:{0} 0" + every[2:] + "1:{1} " + first + ":{0,1}"
	askWhole(t, "MaxBits", b, x, p, 1, rows, 1, want+" | "+want+" | "+every+":{1}")
	l := whole(t, b, x, p, 1, rows, 1)[0]
	askAt(t, b, l, strings.Repeat("0", api.MaxBits-1)+"1", 2, true)
	askAt(t, b, l, strings.Repeat("1", api.MaxBits), 3, true)
	askVerdict(t, b, l, 1, api.Equal, breaks(strings.Repeat("0", api.MaxBits), 0))
	askVerdict(t, b, l[1:], 1, api.Equal, breaks("1"+strings.Repeat("0", api.MaxBits-1), 0))
	askVerdict(t, b, l, 1, api.Most, right)
}

// P17.4

func TestAt(t *testing.T) {
	b := newTable(t, 2)
	l := entries(t, b, 62, "00:{0} 11:{1} 01:{62} 10:{0,>62}")
	askAt(t, b, l, "00", 1, true)
	askAt(t, b, l, "01", 1<<62, true)
	askAt(t, b, l, "10", 1<<63+1, true)
	askAt(t, b, l, "11", 2, true)
	askAt(t, b, l[:2], "01", 0, false)
	askAt(t, b, nil, "01", 0, false)
	// Of any entries: the first one, whatever its Counts.
	for _, h := range headersOf(2) {
		askAt(t, b, []api.Entry{{Where: 0, Counts: 7}, {Where: setOf(t, b, "1x"), Counts: 9}, {Where: 1, Counts: 5}, {Where: 1, Counts: 3}}, h, map[byte]api.Counts{'0': 5, '1': 9}[h[0]], true)
		askAt(t, b, []api.Entry{{Where: 1}}, h, 0, true)
		askAt(t, b, []api.Entry{{Where: 0, Counts: 1}}, h, 0, false)
	}
}

// P17.5

func TestVerdict(t *testing.T) {
	b := newTable(t, 2)
	for _, ask := range []struct {
		bound              int
		l                  string
		equal, most, least api.Verdict
	}{
		{1, "xx:{1}", right, right, right},
		{1, "xx:{0}", breaks("00", 0), right, breaks("00", 0)},
		{1, "1x:{>1}", breaks("10", 2), breaks("10", 2), right},
		{1, "1x:{0} 01:{1}", breaks("10", 0), right, breaks("10", 0)},
		{1, "01:{0,1} 11:{1} 00:{>1}", breaks("01", 0), breaks("00", 2), breaks("01", 0)},
		{1, "x1:{1} 00:{1,>1}", breaks("00", 2), breaks("00", 2), right},
		{3, "01:{0,1,3} 11+00:{2} 10:{3,>3}", breaks("01", 0), breaks("10", 4), breaks("01", 0)},
		{3, "01:{3} 11+00:{2,3} 10:{3,>3}", breaks("00", 2), breaks("10", 4), breaks("00", 2)},
		{0, "x0:{0}", right, right, right},
		{0, "11:{0} x0:{0,>0}", breaks("00", 1), breaks("00", 1), right},
		{62, "10:{61} 01:{62} 11:{>62}", breaks("10", 61), breaks("11", 63), breaks("10", 61)},
		{62, "01:{62}", right, right, right},
	} {
		l := entries(t, b, ask.bound, ask.l)
		askVerdict(t, b, l, ask.bound, api.Equal, ask.equal)
		askVerdict(t, b, l, ask.bound, api.Most, ask.most)
		askVerdict(t, b, l, ask.bound, api.Least, ask.least)
	}
	for compare := api.Equal; compare <= api.Least; compare++ {
		askVerdict(t, b, nil, 1, compare, right)
	}
	// Of any entries whose Counts may be, whether they are a result or not: the first one that breaks it.
	low, high := setOf(t, b, "0x"), setOf(t, b, "1x")
	askVerdict(t, b, []api.Entry{entry(high, 2), entry(low, 2), entry(high, 5), entry(low, 1), entry(high, 1)}, 1, api.Equal, breaks("10", 0))
	askVerdict(t, b, []api.Entry{entry(1, 2), entry(1, 1), entry(high, 4)}, 1, api.Equal, breaks("00", 0))
	askVerdict(t, b, []api.Entry{entry(1, 2), entry(high, 4), entry(1, 4)}, 1, api.Most, breaks("10", 2))
	// Any tells no header of no headers.
	askVerdict(t, b, []api.Entry{entry(1, 2), entry(0, 6), entry(high, 4)}, 1, api.Most, breaks("", 2))
}
