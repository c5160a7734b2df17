package central_test

import (
	"fmt"
	"slices"
	"strings"
	"testing"

	"milestone/api"
	"milestone/central"
	"milestone/plan"
	"milestone/topo"
)

// P15.1, P15.2 and P15.3: the chapter's example.
func TestExample(t *testing.T) {
	x := inRow(t)
	p := made(t, x, "a .* c", 3, "a c")
	fibs := doing(t, x, "all(p)", "all(q)", "deliver")
	askCounts(t, "all to the next one", x, p, fibs, "10", 1, "{1} {1} {1}")
	askVerdict(t, "all to the next one", x, p, fibs, 0, "10", 1, api.Equal, right)
	askCopies(t, "all to the next one", x, fibs, "10", 9, 1, 0, 1, 2)
	fibs = doing(t, x, "all(p)", "any(q,r)", "deliver")
	askCounts(t, "any of a port to c and one without a link", x, p, fibs, "10", 1, "{0,1} {0,1} {1}")
	askVerdict(t, "any of a port to c and one without a link", x, p, fibs, 0, "10", 1, api.Equal, breaks("10", 0))
	askCopies(t, "any is not all", x, fibs, "10", 9, 0, 0, 1, 2)
	fibs = rowsOf(t, x, "rule 0 xx all(p)", "rule 1 1x drop;rule 0 xx all(q)", "rule 0 xx deliver")
	askCounts(t, "the middle one drops 1x", x, p, fibs, "10", 1, "{0} {0} {1}")
	askVerdict(t, "the middle one drops 1x", x, p, fibs, 0, "10", 1, api.Equal, breaks("10", 0))
	askVerdict(t, "the middle one drops 1x", x, p, fibs, 0, "01", 1, api.Equal, right)
}

// P15.1: each kind of action, at a place with Accept and at one without, with one Kid, two, and none.
func TestWhatADeviceDoes(t *testing.T) {
	x := mesh(t)
	for _, ask := range []struct{ does, both, b, none string }{
		{"", "{0}", "{0}", "{0}"},
		{"drop", "{0}", "{0}", "{0}"},
		{"all(p)", "{1}", "{1}", "{0}"},
		{"all(p,q)", "{2}", "{2}", "{0}"},
		{"all(r)", "{1}", "{0}", "{0}"},
		{"all(p,q,r)", "{3}", "{2}", "{0}"},
		{"all(q,r,s,v)", "{2}", "{1}", "{0}"},
		{"all(s)", "{0}", "{0}", "{0}"},
		{"all(v)", "{0}", "{0}", "{0}"},
		{"any(p)", "{1}", "{1}", "{0}"},
		{"any(p,q)", "{1}", "{1}", "{0}"},
		{"any(p,r)", "{1}", "{0,1}", "{0}"},
		{"any(r)", "{1}", "{0}", "{0}"},
		{"any(p,q,r)", "{1}", "{0,1}", "{0}"},
		{"any(p,s)", "{0,1}", "{0,1}", "{0}"},
		{"any(r,v)", "{0,1}", "{0}", "{0}"},
		{"any(s)", "{0}", "{0}", "{0}"},
		{"any(s,v)", "{0}", "{0}", "{0}"},
	} {
		fibs := doing(t, x, ask.does, "deliver", "deliver")
		for _, accept := range []bool{false, true} {
			what := fmt.Sprintf("a does %s, Accept: %v", ask.does, accept)
			askCounts(t, what, x, planOf(nil, node(1, 0, 0, accept, 1, 2), node(2, 1, 0, true), node(2, 2, 0, true)), fibs, "01", 5, ask.both+" {1} {1}")
			askCounts(t, what, x, planOf(nil, node(1, 0, 0, accept, 1), node(2, 1, 0, true), node(2, 2, 0, true)), fibs, "01", 5, ask.b+" {1} {1}")
		}
		askCounts(t, ask.does, x, planOf(nil, node(1, 0, 0, true)), fibs, "01", 5, ask.none)
	}
	fibs := doing(t, x, "deliver", "drop", "deliver")
	p := planOf(nil, node(1, 0, 0, false, 2, 3), node(1, 0, 1, true, 2, 3), node(2, 1, 0, true), node(2, 2, 0, true))
	askCounts(t, "it delivers just with Accept", x, p, fibs, "11", 5, "{0} {1} {0} {1}")
	fibs = doing(t, x, "all(p,q,r)", "drop", "deliver")
	askCounts(t, "one drops", x, p, fibs, "11", 5, "{1} {1} {0} {1}")
	fibs = doing(t, x, "any(p,r)", "drop", "deliver")
	askCounts(t, "one drops, any", x, p, fibs, "11", 5, "{0,1} {0,1} {0} {1}")
}

// P15.1: sums and unions of what has several elements; a Kid of its own state at the same device.
func TestOfSeveralElements(t *testing.T) {
	x := mesh(t)
	p := made(t, x, "a b? c", 2, "a")
	// The places are 1 a, 2 b, 2 c and 3 c.
	same(t, "the plan", fmt.Sprint(p), "{[{1 0 1 false [1 2]} {2 1 2 false [3]} {2 2 3 true []} {3 2 3 true []}] [0]}")
	fibs := doing(t, x, "all(p,q,r)", "any(r,t)", "deliver")
	askCounts(t, "two may come or not", x, p, fibs, "00", 9, "{1,2,3} {0,1} {1} {1}")
	askCounts(t, "two may come or not, cut", x, p, fibs, "00", 1, "{1,>1} {0,1} {1} {1}")
	fibs = doing(t, x, "any(p,q,r)", "any(r,t)", "deliver")
	askCounts(t, "one of these", x, p, fibs, "00", 9, "{0,1} {0,1} {1} {1}")
	fibs = doing(t, x, "any(p,r)", "all(r,t)", "deliver")
	askCounts(t, "either way", x, p, fibs, "00", 9, "{1} {1} {1} {1}")
	// Two states of one device: each Kid has its own counts.
	p = planOf([]int{0, 1}, node(1, 0, 0, false, 2), node(1, 0, 1, false, 3), node(2, 1, 0, true), node(2, 1, 1, false, 4), node(3, 2, 0, true))
	askCounts(t, "b delivers", x, p, doing(t, x, "all(p,q)", "deliver", "deliver"), "00", 9, "{2} {0} {1} {0} {1}")
	askCounts(t, "b sends on", x, p, doing(t, x, "all(p,q)", "all(r)", "deliver"), "00", 9, "{0} {2} {0} {1} {1}")
}

// P15.1: a link of a device with itself: either port leads to the place behind it at the same device.
func TestALinkWithItself(t *testing.T) {
	x := mesh(t)
	p := made(t, x, "b b c", 2, "b")
	same(t, "the plan", fmt.Sprint(p), "{[{1 1 1 false [1]} {2 1 2 false [2]} {3 2 3 true []}] [0]}")
	for does, want := range map[string]string{
		"all(r,t)":   "{1} {1} {1}",
		"all(r,u)":   "{1} {1} {1}",
		"all(r,t,u)": "{2} {1} {1}",
		"all(t,u)":   "{0} {0} {1}",
		"all(r)":     "{0} {1} {1}",
		"any(r,t,u)": "{0,1} {0,1} {1}",
		"any(t,u)":   "{0} {0} {1}",
	} {
		fibs := doing(t, x, "", does, "deliver")
		askCounts(t, "b does "+does, x, p, fibs, "10", 9, want)
	}
	fibs := doing(t, x, "", "all(r,t,u)", "deliver")
	askCopies(t, "round and on", x, fibs, "10", 99, 2, 1, 1, 2)
	askCopies(t, "round thrice", x, fibs, "10", 99, 8, 1, 1, 1, 1, 2)
	askCopies(t, "on", x, fibs, "10", 99, 1, 1, 2)
}

// P15.1 and P15.3: without rules, or with none that the header meets, it is dropped.
func TestNoRules(t *testing.T) {
	x := inRow(t)
	p := made(t, x, "a .* c", 3, "a c")
	for what, fibs := range map[string][][]api.Rule{
		"no rule at all":     rowsOf(t, x),
		"empty rows":         {{}, nil, {}},
		"none of this":       rowsOf(t, x, "rule 5 1x all(p)", "rule 5 1x all(q)", "rule 5 1x deliver"),
		"none of this at c":  rowsOf(t, x, "rule 5 xx all(p)", "rule 5 xx all(q)", "rule 5 1x deliver"),
		"a row without some": rowsOf(t, x, "rule 5 xx all(p)", "rule 5 xx all(q)"),
	} {
		for bound := range 3 {
			askCounts(t, what, x, p, fibs, "01", bound, "{0} {0} {0}")
		}
		askVerdict(t, what, x, p, fibs, 0, "01", 1, api.Least, breaks("01", 0))
		askVerdict(t, what, x, p, fibs, 0, "01", 0, api.Equal, right)
		askCopies(t, what, x, fibs, "01", 9, 0, 0, 1, 2)
		askCopies(t, what, x, fibs, "01", 9, 0, 2)
	}
	fibs := rowsOf(t, x, "rule 5 xx all(p)", "", "rule 5 xx deliver")
	askCounts(t, "none between", x, p, fibs, "01", 2, "{0} {0} {1}")
	askCopies(t, "none between", x, fibs, "01", 9, 0, 0, 1, 2)
}

// P15.1 and P15.3: rules may stand in any order; the first in a table's order is met.
func TestWhichRuleIsMet(t *testing.T) {
	x := network(t, "a", "")
	p := planOf([]int{0}, node(1, 0, 0, true))
	row := rowsOf(t, x, "rule 1 xx deliver;rule 5 x1 drop;rule 5 1x deliver;rule 0 xx drop;rule 7 00 drop")
	for header, want := range map[string]string{"00": "{0}", "01": "{0}", "10": "{1}", "11": "{1}"} {
		askCounts(t, "as they stand", x, p, row, header, 2, want)
		back := [][]api.Rule{slices.Clone(row[0])}
		slices.Reverse(back[0])
		askCounts(t, "the other way round", x, p, back, header, 2, want)
		askCopies(t, "the other way round", x, back, header, 9, strings.Count(want, "1"), 0)
	}
}

// fan is a with so many links to b.
func fan(t *testing.T, many int) api.Topo {
	t.Helper()
	var ports, links []string
	for i := range many {
		port := fmt.Sprintf("p%02d", i)
		ports, links = append(ports, port), append(links, "a."+port+"-b."+port)
	}
	return network(t, "a:"+strings.Join(ports, ",")+" b:"+strings.Join(ports, ","), strings.Join(links, " "))
}

// firstPorts are all or any of so many first ports of a fan.
func firstPorts(kind string, many int) string {
	var l []string
	for i := range many {
		l = append(l, fmt.Sprintf("p%02d", i))
	}
	return kind + "(" + strings.Join(l, ",") + ")"
}

// P15.1: all numbers are cut by the bound: 0, a small one, MaxCount.
func TestBounds(t *testing.T) {
	x := fan(t, api.MaxPorts)
	p := made(t, x, "a b", 1, "a")
	for _, ask := range []struct {
		many, bound int
		want        string
	}{
		{1, 0, "{>0} {>0}"}, {1, 1, "{1} {1}"}, {1, 62, "{1} {1}"},
		{2, 0, "{>0} {>0}"}, {2, 1, "{>1} {1}"}, {2, 2, "{2} {1}"}, {2, 3, "{2} {1}"},
		{3, 1, "{>1} {1}"}, {3, 2, "{>2} {1}"}, {3, 3, "{3} {1}"},
		{61, 62, "{61} {1}"}, {62, 62, "{62} {1}"}, {63, 62, "{>62} {1}"}, {64, 62, "{>62} {1}"},
		{61, 61, "{61} {1}"}, {62, 61, "{>61} {1}"}, {64, 61, "{>61} {1}"}, {64, 0, "{>0} {>0}"},
	} {
		fibs := doing(t, x, firstPorts("all", ask.many), "deliver")
		askCounts(t, fmt.Sprint(ask.many, " copies"), x, p, fibs, "11", ask.bound, ask.want)
	}
	askCounts(t, "nothing comes", x, p, doing(t, x, "drop", "drop"), "11", 0, "{0} {0}")
	askCounts(t, "nothing comes", x, p, doing(t, x, "drop", "drop"), "11", 62, "{0} {0}")
	// Any of all ports of a link is one copy; each of many that may come or not makes all numbers.
	askCounts(t, "any", x, p, doing(t, x, firstPorts("any", 64), "deliver"), "11", 62, "{1} {1}")
	y := fan(t, 63)
	y.Devices[0].Ports = append(y.Devices[0].Ports, "q")
	y.Devices = append(y.Devices, api.Device{Name: "c", Ports: []string{"p"}})
	y.Devices[1].Ports = append(y.Devices[1].Ports, "q")
	y.Links = append(y.Links, api.Link{A: 1, PortA: "q", B: 2, PortB: "p"})
	same(t, "it may be", topo.Check(y), api.OK)
	q := made(t, y, "a b c", 2, "a")
	fibs := doing(t, y, firstPorts("all", 63), "any(q,z)", "deliver")
	l := counted(t, y, q, fibs, "00", 62)
	same(t, "all numbers", l[0], ^api.Counts(0))
	fibs = doing(t, y, firstPorts("all", 62), "any(q,z)", "deliver")
	same(t, "all numbers but the last", counted(t, y, q, fibs, "00", 62)[0], ^api.Counts(0)>>1)
}

// P15.1: of a plan without places, and of Kids that no root leads to; Counts are in order.
func TestAllPlaces(t *testing.T) {
	x := inRow(t)
	fibs := doing(t, x, "all(p)", "all(q)", "deliver")
	askCounts(t, "no places", x, api.Plan{}, fibs, "00", 2, "")
	askCounts(t, "no places, but a root", x, planOf([]int{-1}), fibs, "00", 2, "")
	p := planOf(nil, node(1, 2, 3, true), node(3, 0, 0, true), node(5, 1, 0, false, 4), node(5, 1, 1, true), node(6, 2, 0, true))
	askCounts(t, "places here and there", x, p, fibs, "00", 2, "{1} {0} {1} {0} {1}")
}

// P15.1: a loop: what goes round is not delivered more often than paths allow.
func TestALoop(t *testing.T) {
	x := network(t, "a:p,q b:p,q c:p", "a.p-b.p b.q-c.p")
	p := made(t, x, "a .* c", 6, "a")
	fibs := doing(t, x, "all(p)", "all(p,q)", "deliver")
	// From a: b, and from there c, or back to a: after two, four and six hops.
	l := counted(t, x, p, fibs, "01", 9)
	same(t, "from a", sets(9, l[p.Roots[0]]), "{3}")
	askVerdict(t, "three times", x, p, fibs, 0, "01", 2, api.Most, breaks("01", 3))
	for i, path := range [][]int{{0, 1, 2}, {0, 1, 0, 1, 2}, {0, 1, 0, 1, 0, 1, 2}} {
		askCopies(t, fmt.Sprint("round ", i), x, fibs, "01", 9, 1, path...)
	}
}

// P15.2: the least element that breaks the compare, of sets that break it and of sets that do not.
func TestVerdict(t *testing.T) {
	x := mesh(t)
	p := made(t, x, "a b? c", 2, "a")
	none, one, three := []string{"drop", "", ""}, []string{"all(r)", "", "deliver"}, []string{"all(p,q,r)", "all(r)", "deliver"}
	maybe, many := []string{"any(r,s)", "", "deliver"}, []string{"all(p,q,r)", "any(r,t)", "deliver"} // {0,1} and {1,2,3}
	for _, ask := range []struct {
		does           []string
		bound, compare int
		want           api.Verdict
	}{
		{none, 0, api.Equal, right}, {none, 0, api.Most, right}, {none, 0, api.Least, right},
		{none, 1, api.Equal, breaks("10", 0)}, {none, 1, api.Most, right}, {none, 1, api.Least, breaks("10", 0)},
		{none, 62, api.Equal, breaks("10", 0)}, {none, 62, api.Most, right}, {none, 62, api.Least, breaks("10", 0)},
		{one, 0, api.Equal, breaks("10", 1)}, {one, 0, api.Most, breaks("10", 1)}, {one, 0, api.Least, right},
		{one, 1, api.Equal, right}, {one, 1, api.Most, right}, {one, 1, api.Least, right},
		{one, 2, api.Equal, breaks("10", 1)}, {one, 2, api.Most, right}, {one, 2, api.Least, breaks("10", 1)},
		{three, 1, api.Equal, breaks("10", 2)}, {three, 1, api.Most, breaks("10", 2)}, {three, 1, api.Least, right},
		{three, 2, api.Equal, breaks("10", 3)}, {three, 2, api.Most, breaks("10", 3)}, {three, 2, api.Least, right},
		{three, 3, api.Equal, right}, {three, 3, api.Most, right}, {three, 3, api.Least, right},
		{three, 4, api.Equal, breaks("10", 3)}, {three, 4, api.Most, right}, {three, 4, api.Least, breaks("10", 3)},
		{maybe, 0, api.Equal, breaks("10", 1)}, {maybe, 0, api.Most, breaks("10", 1)}, {maybe, 0, api.Least, right},
		{maybe, 1, api.Equal, breaks("10", 0)}, {maybe, 1, api.Most, right}, {maybe, 1, api.Least, breaks("10", 0)},
		{many, 1, api.Equal, breaks("10", 2)}, {many, 1, api.Most, breaks("10", 2)}, {many, 1, api.Least, right},
		{many, 2, api.Equal, breaks("10", 1)}, {many, 2, api.Most, breaks("10", 3)}, {many, 2, api.Least, breaks("10", 1)},
		{many, 3, api.Equal, breaks("10", 1)}, {many, 3, api.Most, right}, {many, 3, api.Least, breaks("10", 1)},
		{many, 62, api.Equal, breaks("10", 1)}, {many, 62, api.Most, right}, {many, 62, api.Least, breaks("10", 1)},
	} {
		askVerdict(t, fmt.Sprint(ask.does), x, p, doing(t, x, ask.does...), 0, "10", ask.bound, ask.compare, ask.want)
	}
	y := fan(t, 64)
	q := made(t, y, "a b", 1, "a")
	askVerdict(t, "more than MaxCount", y, q, doing(t, y, firstPorts("all", 64), "deliver"), 0, "11", 62, api.Most, breaks("11", 63))
	askVerdict(t, "MaxCount", y, q, doing(t, y, firstPorts("all", 62), "deliver"), 0, "11", 62, api.Equal, right)
}

// P15.2: the i-th Root: one that is -1 has 0 alone; the same may stand there twice.
func TestVerdictOfRoots(t *testing.T) {
	x := inRow(t)
	p := planOf([]int{-1, 1, 0, -1, 1}, node(1, 1, 0, false, 2), node(1, 2, 0, true), node(2, 0, 0, true))
	fibs := doing(t, x, "drop", "all(p)", "deliver")
	askCounts(t, "the places", x, p, fibs, "00", 1, "{0} {1} {0}")
	for i, n := range []int{0, 1, 0, 0, 1} {
		for _, header := range []string{"00", "11"} {
			want := map[bool]api.Verdict{true: right, false: breaks(header, n)}
			askVerdict(t, "exactly 1", x, p, fibs, i, header, 1, api.Equal, want[n == 1])
			askVerdict(t, "at least 1", x, p, fibs, i, header, 1, api.Least, want[n == 1])
			askVerdict(t, "at most 1", x, p, fibs, i, header, 1, api.Most, right)
			askVerdict(t, "exactly 0", x, p, fibs, i, header, 0, api.Equal, want[n == 0])
			askVerdict(t, "at least 0", x, p, fibs, i, header, 0, api.Least, right)
		}
	}
	// Of a plan that has no place at all.
	p = made(t, x, "a a", 3, "a b c")
	same(t, "no places", fmt.Sprint(p), "{[] [-1 -1 -1]}")
	for i := range 3 {
		askVerdict(t, "nobody", x, p, fibs, i, "01", 0, api.Equal, right)
		askVerdict(t, "nobody", x, p, fibs, i, "01", 62, api.Least, breaks("01", 0))
	}
}

// P15.3: ports of All with the next device as their Peer, and whether the last one delivers.
func TestCopies(t *testing.T) {
	x := mesh(t)
	fibs := doing(t, x, "all(p,q,r,s,v)", "all(p,q,r,t)", "deliver")
	for _, ask := range []struct {
		want int
		path []int
	}{
		{0, nil}, {1, []int{2}}, {0, []int{0}}, {0, []int{1}},
		{2, []int{0, 1, 2}}, {1, []int{0, 2}}, {1, []int{1, 2}}, {0, []int{0, 1}},
		{2, []int{1, 0, 2}}, {4, []int{0, 1, 0, 2}}, {8, []int{0, 1, 0, 1, 2}}, {2, []int{0, 1, 1, 2}}, {2, []int{0, 1, 1, 1, 2}},
		{0, []int{0, 0, 2}}, {0, []int{2, 2}}, {0, []int{2, 1, 2}}, {0, []int{0, 1, 0}}, {0, []int{0, 2, 2}},
	} {
		askCopies(t, "many copies", x, fibs, "00", 1<<30, ask.want, ask.path...)
	}
	for does, want := range map[string]int{"": 0, "drop": 0, "deliver": 0, "any(p)": 0, "any(p,q,r)": 0, "all(p)": 1, "all(q)": 1, "all(p,q)": 2, "all(r)": 0, "all(s,v)": 0} {
		askCopies(t, "a does "+does, x, doing(t, x, does, "all(r)", "deliver"), "11", 9, want, 0, 1, 2)
	}
	for does, want := range map[string]int{"": 0, "drop": 0, "deliver": 1, "any(p)": 0, "all(p,q,s)": 0} {
		fibs := doing(t, x, "all(p,r)", "all(r)", does)
		askCopies(t, "c does "+does, x, fibs, "11", 9, want, 0, 1, 2)
		askCopies(t, "c alone does "+does, x, fibs, "11", 9, want, 2)
	}
}

// P15.3: at most most, 0 and 2^30 among them; a 0 behind what is cut makes it 0.
func TestCopiesAreCut(t *testing.T) {
	x := mesh(t)
	fibs := doing(t, x, "all(p,q,r)", "all(p,q,r)", "deliver")
	for most := range 11 {
		askCopies(t, "eight", x, fibs, "00", most, min(8, most), 0, 1, 0, 1, 2)
		askCopies(t, "two", x, fibs, "00", most, min(2, most), 0, 1, 2)
		askCopies(t, "one", x, fibs, "00", most, min(1, most), 2)
		askCopies(t, "none", x, fibs, "00", most, 0, 0, 1, 0, 1, 0)
		askCopies(t, "none of an empty path", x, fibs, "00", most, 0)
		askCopies(t, "none in between", x, fibs, "00", most, 0, 0, 1, 0, 1, 1, 0, 2)
	}
	// Each two steps make it four times as many: 2^28, 2^30, 2^32.
	for turns, want := range map[int]int{14: 1 << 28, 15: 1 << 30, 16: 1 << 30, 31: 1 << 30, 32: 1 << 30, 33: 1 << 30, 500000: 1 << 30} {
		path := slices.Repeat([]int{0, 1}, turns)
		askCopies(t, "round and round", x, fibs, "00", 1<<30, want, append(path, 0, 2)...)
		askCopies(t, "round and round", x, fibs, "00", 1<<30-1, min(want, 1<<30-1), append(path, 0, 2)...)
		askCopies(t, "round and round", x, fibs, "00", 1000, 1000, append(path, 0, 2)...)
		askCopies(t, "round and round", x, fibs, "00", 0, 0, append(path, 0, 2)...)
		askCopies(t, "round and round, not delivered", x, fibs, "00", 1<<30, 0, append(path, 0)...)
		askCopies(t, "round and round, then no way", x, fibs, "00", 1<<30, 0, append(path, 1, 2)...)
	}
	y := fan(t, 64)
	askCopies(t, "64", y, doing(t, y, firstPorts("all", 64), "deliver"), "00", 1<<30, 64, 0, 1)
	askCopies(t, "64, cut", y, doing(t, y, firstPorts("all", 64), "deliver"), "00", 63, 63, 0, 1)
}

// Headers of one bit and of as many as may be.
func TestWidths(t *testing.T) {
	for _, width := range []int{1, api.MaxBits} {
		x := inRow(t)
		x.Width = width
		p := made(t, x, "a .* c", 3, "a c")
		one, zero := strings.Repeat("1", width), strings.Repeat("1", width-1)+"0"
		fibs := rowsOf(t, x, "rule 1 "+one+" all(p)", "rule 1 "+one+" all(q)", "rule 1 "+one+" deliver")
		askCounts(t, "the header of the rules", x, p, fibs, one, 1, "{1} {1} {1}")
		askCounts(t, "another one", x, p, fibs, zero, 1, "{0} {0} {0}")
		askVerdict(t, "another one", x, p, fibs, 0, zero, 1, api.Equal, breaks(zero, 0))
		askCopies(t, "the header of the rules", x, fibs, one, 9, 1, 0, 1, 2)
		askCopies(t, "another one", x, fibs, zero, 9, 0, 0, 1, 2)
	}
}

// A network, a plan and rows as great as may be.
func TestAsGreatAsMayBe(t *testing.T) {
	x := greatest(t)
	var p api.Plan
	for level := range api.MaxPlan / api.MaxDevices {
		for device := range x.Devices {
			n := node(level+1, device, 0, true)
			if level < api.MaxPlan/api.MaxDevices-1 {
				for _, near := range topo.Near(x, device) {
					n.Kids = append(n.Kids, (level+1)*api.MaxDevices+near)
				}
			}
			p.Nodes = append(p.Nodes, n)
		}
	}
	p.Roots = []int{0, 100}
	same(t, "the plan may be", plan.Check(x, p), api.OK)
	actions := []string{"deliver"}
	for range api.MaxDevices - 1 {
		actions = append(actions, firstPorts("all", api.MaxPorts))
	}
	fibs := doing(t, x, actions...)
	l := counted(t, x, p, fibs, "00", api.MaxCount)
	last, ahead := l[63*256:], l[62*256:63*256]
	same(t, "one place", l[0], setOf(1))
	same(t, "another place", l[100], setOf(63))
	for device := range 256 {
		next := device > 0 && min(device, 256-device) <= 16
		same(t, "a last place", last[device], setOf(map[bool]int{true: 1}[device == 0]))
		same(t, "a place ahead", ahead[device], setOf(map[bool]int{true: 1}[device == 0 || next]))
	}
	askVerdict(t, "many", x, p, fibs, 1, "00", api.MaxCount, api.Most, breaks("00", 63))
	askCopies(t, "one", x, fibs, "00", 9, 1, 32, 16, 0)
	askCopies(t, "none", x, fibs, "00", 9, 0, 33, 16, 0)
}

// At MaxRules all is as below it.
func TestAsManyRulesAsMayBe(t *testing.T) {
	x := inRow(t)
	p := made(t, x, "a .* c", 3, "a c")
	fibs := doing(t, x, "all(p)", "all(q)", "deliver")
	for priority := range api.MaxRules - 1 {
		fibs[1] = append(fibs[1], api.Rule{Priority: priority + 2, Match: "11", Action: api.Action{Kind: api.Drop}})
	}
	same(t, "how many", len(fibs[1]), api.MaxRules)
	askCounts(t, "the first rule", x, p, fibs, "10", 1, "{1} {1} {1}")
	askCounts(t, "the others", x, p, fibs, "11", 1, "{0} {0} {1}")
	fibs[1] = append(fibs[1], api.Rule{Priority: 0, Match: "11", Action: api.Action{Kind: api.Drop}})
	if l, e := central.Counts(x, p, fibs, "10", 1); len(l) != 0 || e != api.ErrMany {
		t.Errorf("Counts = %v, %v", l, e)
	}
}
