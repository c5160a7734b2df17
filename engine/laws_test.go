package engine_test

import (
	"fmt"
	"math/rand"
	"slices"
	"strings"
	"testing"

	"milestone/api"
	"milestone/bdd"
	"milestone/central"
	"milestone/engine"
	"milestone/plan"
	"milestone/topo"
)

// askHeaders asks, header by header, for the counts of a place's result; of no other headers than the packets it has any.
func askHeaders(t *testing.T, what string, b *bdd.Table, packets api.Ref, l []api.Entry, bound int, want func(header string) api.Counts) {
	t.Helper()
	if !modelIsResult(t, b, packets, l, bound) {
		t.Fatalf("%s: %s is no result of %s", what, said(b, bound, l...), within(t, b, packets))
	}
	same(t, what+": Check", engine.Check(b, packets, l, bound), api.OK)
	of := within(t, b, packets)
	for _, h := range headersOf(b.Bits()) {
		if slices.Contains(of, h) {
			askAt(t, b, l, h, want(h), true)
		} else {
			askAt(t, b, l, h, 0, false)
		}
	}
}

// P17.1: entries of all kinds, most of which differ from a result in one thing at most.
func TestCheckAsTheDocumentSays(t *testing.T) {
	r := rand.New(rand.NewSource(171))
	results := 0
	for range 6000 {
		b := newTable(t, 1+r.Intn(3))
		packets, bound := someSet(t, r, b), someBound(r)
		l := someResult(t, r, b, packets, bound)
		for range r.Intn(3) {
			if len(l) == 0 {
				break
			}
			i := r.Intn(len(l))
			switch r.Intn(7) {
			case 0:
				l[i].Where = someSet(t, r, b)
			case 1:
				l[i].Counts = someCounts(r, bound+r.Intn(2))
			case 2:
				l[i].Counts = pick(r, 0, 1, l[i].Counts<<1, l[r.Intn(len(l))].Counts)
			case 3:
				l = slices.Delete(l, i, i+1)
			case 4:
				l = slices.Insert(l, i, l[i])
			case 5:
				packets = someSet(t, r, b)
			case 6:
				l[i].Where, _ = b.Or(l[i].Where, setOf(t, b, pick(r, headersOf(b.Bits())...)))
			}
		}
		want := api.ErrEntries
		if modelIsResult(t, b, packets, l, bound) {
			want = api.OK
			results++
		}
		if e := engine.Check(b, packets, l, bound); e != want {
			t.Errorf("Check(%s, %s, %d) = %v, want %v", within(t, b, packets), said(b, bound, l...), bound, e, want)
		}
	}
	if results < 1000 || results > 5000 {
		t.Errorf("%d of them were results", results)
	}
}

// P17.2: what the document's words say, of many networks, plans, classes and Kids' results.
func TestNodeAsTheDocumentSays(t *testing.T) {
	r := rand.New(rand.NewSource(172))
	seen := map[api.Counts]int{}
	for range 4000 {
		b := newTable(t, 1+r.Intn(3))
		x := someNetwork(t, r, b.Bits())
		p := somePlan(t, r, x)
		if len(p.Nodes) == 0 {
			continue
		}
		n, packets, bound := r.Intn(len(p.Nodes)), someSet(t, r, b), someBound(r)
		row := classesOf(t, b, someRules(t, r, b.Bits(), "drop", "deliver", "all", "all", "all", "any", "any")...)
		var kids [][]api.Entry
		for range p.Nodes[n].Kids {
			kids = append(kids, someResult(t, r, b, packets, bound))
		}
		l, e := engine.Node(b, x, p, n, packets, row, kids, bound)
		if e != api.OK {
			t.Fatalf("Node: %v", e)
		}
		askHeaders(t, fmt.Sprint(x, p, n, row, kids), b, packets, l, bound, func(h string) api.Counts {
			c := modelCut(bound, modelPlace(x, p, n, modelDoes(t, b, row, h), func(k int) []int {
				for i, kid := range p.Nodes[n].Kids {
					if kid == k {
						c, _, _ := engine.At(b, kids[i], h)
						return modelElements(c)
					}
				}
				return nil
			}))
			seen[c]++
			return c
		})
	}
	if len(seen) < 60 {
		t.Errorf("just %d sets came up", len(seen))
	}
}

// P17.3: the same of all places; Node by the results of the Kids tells each of them.
func TestWholeAsTheDocumentSays(t *testing.T) {
	r := rand.New(rand.NewSource(173))
	seen := map[api.Counts]int{}
	for range 1200 {
		b := newTable(t, 1+r.Intn(3))
		x := someNetwork(t, r, b.Bits())
		p, packets, bound := somePlan(t, r, x), someSet(t, r, b), someBound(r)
		var rows [][]api.Class
		for _, fib := range someRows(t, r, x) {
			rows = append(rows, classesOf(t, b, fib...))
		}
		does := map[string][]api.Action{}
		for _, h := range headersOf(b.Bits()) {
			for _, row := range rows {
				does[h] = append(does[h], modelDoes(t, b, row, h))
			}
		}
		results := whole(t, b, x, p, packets, rows, bound)
		for n, l := range results {
			askHeaders(t, fmt.Sprint(x, p, n, rows), b, packets, l, bound, func(h string) api.Counts {
				c := modelCut(bound, modelNumbers(x, p, n, does[h]))
				seen[c]++
				return c
			})
			var kids [][]api.Entry
			for _, k := range p.Nodes[n].Kids {
				kids = append(kids, results[k])
			}
			again, e := engine.Node(b, x, p, n, packets, rows[p.Nodes[n].Device], kids, bound)
			if e != api.OK || !slices.Equal(again, l) {
				t.Errorf("Node(%d) = %v, %v, want %v", n, again, e, l)
			}
		}
	}
	if len(seen) < 20 {
		t.Errorf("just %d sets came up", len(seen))
	}
}

// someCase is a network of two bits with rules, their classes and a plan.
func someCase(t *testing.T, r *rand.Rand, b *bdd.Table) (x api.Topo, p api.Plan, fibs [][]api.Rule, rows [][]api.Class) {
	t.Helper()
	x = someNetwork(t, r, 2)
	fibs = someRows(t, r, x)
	for _, fib := range fibs {
		rows = append(rows, classesOf(t, b, fib...))
	}
	return x, somePlan(t, r, x), fibs, rows
}

// P17.6: a header's counts in a place's result are those of central.Count.
func TestTheSpecification(t *testing.T) {
	r := rand.New(rand.NewSource(176))
	for range 1200 {
		b := newTable(t, 2)
		x, p, fibs, rows := someCase(t, r, b)
		packets, bound := someSet(t, r, b), someBound(r)
		want := map[string][]api.Counts{}
		for _, h := range headersOf(2) {
			l, e := central.Counts(x, p, fibs, h, bound)
			if e != api.OK {
				t.Fatalf("Counts: %v", e)
			}
			want[h] = l
		}
		for n, l := range whole(t, b, x, p, packets, rows, bound) {
			askHeaders(t, fmt.Sprint(x, p, n, fibs), b, packets, l, bound, func(h string) api.Counts { return want[h][n] })
		}
	}
}

// P17.7: the Verdict of a root's result is Right just if central.Verdict of each header is; else it names one of them.
func TestAWitness(t *testing.T) {
	r := rand.New(rand.NewSource(177))
	rights, wrongs, others := 0, 0, 0
	for range 2500 {
		b := newTable(t, 2)
		x, p, fibs, rows := someCase(t, r, b)
		packets, bound := someSet(t, r, b), pick(r, 0, 1, 1, 2, 3, 62)
		results := whole(t, b, x, p, packets, rows, bound)
		for i, root := range p.Roots {
			if root < 0 {
				continue
			}
			for compare := api.Equal; compare <= api.Least; compare++ {
				v, e := engine.Verdict(b, results[root], bound, compare)
				if e != api.OK {
					t.Fatalf("Verdict: %v", e)
				}
				each := map[string]api.Verdict{}
				broken := 0
				for _, h := range within(t, b, packets) {
					if each[h], e = central.Verdict(x, p, fibs, i, h, bound, compare); e != api.OK {
						t.Fatalf("central.Verdict: %v", e)
					}
					if !each[h].Right {
						broken++
					}
				}
				switch {
				case v.Right != (broken == 0):
					t.Errorf("%v, %v, %v: Verdict = %v, of headers %v", x, p, fibs, v, each)
				case v.Right:
					same(t, "what is right", v, right)
					rights++
				default:
					same(t, "what is not right", v, each[v.Header])
					wrongs++
					if broken < len(each) {
						others++
					}
				}
			}
		}
	}
	if rights < 500 || wrongs < 500 || others < 200 {
		t.Errorf("just %d right, %d wrong, %d of these with headers that are right", rights, wrongs, others)
	}
}

// P17.4 and P17.5: entries of all kinds, a result or not.
func TestLooksAsTheDocumentSays(t *testing.T) {
	r := rand.New(rand.NewSource(174))
	for range 3000 {
		b := newTable(t, 1+r.Intn(3))
		bound := someBound(r)
		var l []api.Entry
		for range r.Intn(5) {
			l = append(l, entry(someSet(t, r, b), someCounts(r, bound)))
		}
		for _, h := range headersOf(b.Bits()) {
			i := slices.IndexFunc(l, func(x api.Entry) bool { return slices.Contains(within(t, b, x.Where), h) })
			want := api.Entry{}
			if i >= 0 {
				want = l[i]
			}
			askAt(t, b, l, h, want.Counts, i >= 0)
		}
		for compare := api.Equal; compare <= api.Least; compare++ {
			askVerdict(t, b, l, bound, compare, modelVerdict(t, b, l, bound, compare))
		}
	}
}

// Rule 4: nothing that is handed in is changed.
func TestNothingIsChanged(t *testing.T) {
	r := rand.New(rand.NewSource(178))
	for range 300 {
		b := newTable(t, 2)
		x, p, _, rows := someCase(t, r, b)
		if len(p.Nodes) == 0 {
			continue
		}
		packets, bound := someSet(t, r, b), someBound(r)
		n := r.Intn(len(p.Nodes))
		var kids [][]api.Entry
		for range p.Nodes[n].Kids {
			kids = append(kids, someResult(t, r, b, packets, bound))
		}
		before := fmt.Sprint(x, p, rows, kids)
		row := rows[p.Nodes[n].Device]
		l, _ := engine.Node(b, x, p, n, packets, row, kids, bound)
		engine.Whole(b, x, p, packets, rows, bound)
		engine.Check(b, packets, l, bound)
		said := fmt.Sprint(l)
		engine.At(b, l, "10")
		engine.Verdict(b, l, bound, api.Equal)
		engine.Check(b, packets, l, bound)
		same(t, "what was handed in", fmt.Sprint(x, p, rows, kids), before)
		same(t, "entries", fmt.Sprint(l), said)
	}
}

// Rule 4: what is told is one's own, and shares nothing with what was handed in, nor two lists of one answer.
func TestWhatIsToldIsOnesOwn(t *testing.T) {
	b, x := newTable(t, 2), mesh(t, 2)
	p := made(t, x, "a b? c", 2, "a")
	rows := rowsOf(t, b, x, "rule 1 1x all(p,q,r);rule 1 0x any(p,r)", "rule 1 x1 any(r,t);rule 1 x0 all(r)", "deliver")
	want := whole(t, b, x, p, 1, rows, 9)
	got := whole(t, b, x, p, 1, rows, 9)
	for n := range got {
		// Written over, up to the room that there may be behind it.
		l := got[n][:cap(got[n])]
		for i := range l {
			l[i] = entry(-1, 0)
		}
		for k := n + 1; k < len(got); k++ {
			if !slices.Equal(got[k], want[k]) {
				t.Errorf("the result of place %d changed that of %d", n, k)
			}
		}
	}
	again := whole(t, b, x, p, 1, rows, 9)
	for n := range want {
		if !slices.Equal(again[n], want[n]) {
			t.Errorf("what was told is kept: %v, want %v", again[n], want[n])
		}
	}
	// The result of a place that hands all on is its Kid's, and yet another list.
	row := rowOf(t, b, "all(r)")
	kid := entries(t, b, 9, "0x:{0} 1x:{1}")
	l, _ := engine.Node(b, x, planOf(nil, node(1, 0, 0, false, 1), node(2, 2, 0, true)), 0, 1, row, [][]api.Entry{kid}, 9)
	l[0] = entry(-1, 0)
	same(t, "the Kid's", said(b, 9, kid...), "0x:{0} 1x:{1}")
	one, _ := engine.None(b, 1, 9)
	one[0].Counts = 7
	other, _ := engine.None(b, 1, 9)
	same(t, "None", other[0].Counts, api.Counts(1))
}

// Rule 5: what is told hangs on the arguments, not on what else the table told; the refs are those of the same sets.
func TestInAnyTable(t *testing.T) {
	r := rand.New(rand.NewSource(179))
	for range 200 {
		one, other := newTable(t, 2), newTable(t, 2)
		for range r.Intn(9) {
			someSet(t, r, other)
		}
		x := someNetwork(t, r, 2)
		p, bound, cubes := somePlan(t, r, x), someBound(r), []string{someCube(r, 2), someCube(r, 2)}
		fibs := someRows(t, r, x)
		var told []string
		for _, b := range []*bdd.Table{one, other, one} {
			var rows [][]api.Class
			for _, fib := range fibs {
				rows = append(rows, classesOf(t, b, fib...))
			}
			var texts []string
			for _, l := range whole(t, b, x, p, setOf(t, b, cubes...), rows, bound) {
				texts = append(texts, said(b, bound, l...))
			}
			told = append(told, strings.Join(texts, " | "))
		}
		same(t, "in another table", told[1], told[0])
		same(t, "once more", told[2], told[0])
	}
}

// Rule 5: asked at once, each in a table of its own, all tell the same.
func TestAskedAtOnce(t *testing.T) {
	q := good(t)
	told := make(chan string)
	for range 8 {
		b := newTable(t, 2)
		rows := rowsOf(t, b, q.x, "all(p)", "rule 5 1x any(q,r);rule 4 xx all(q)", "rule 3 x1 deliver")
		go func() {
			l, e := engine.Whole(b, q.x, q.p, 1, rows, 2)
			told <- fmt.Sprint(l, e)
		}()
	}
	first := <-told
	for range 7 {
		same(t, "an answer", <-told, first)
	}
}

// Of a ring of parallel links: what comes up on the way is much more than what is told.
func TestWhatComesUpIsNotTold(t *testing.T) {
	b := newTable(t, api.MaxBits)
	x := network(t, api.MaxBits, "a:p,q,r,s b:p,q,r,s", "a.p-b.p a.q-b.q a.r-b.r a.s-b.s")
	p := planOf([]int{0}, node(1, 0, 0, false, 1), node(2, 1, 0, true))
	var kid []string
	for i := range 4 {
		kid = append(kid, fmt.Sprintf("%02b", i)+strings.Repeat("x", api.MaxBits-2)+fmt.Sprintf(":{%d}", i))
	}
	var row []string
	for i := range 11 {
		// Each class hands its headers to another set of links, all of which lead to b.
		var ports []string
		for k, port := range []string{"p", "q", "r", "s"} {
			if (i+2)>>k&1 == 1 {
				ports = append(ports, port)
			}
		}
		cube := strings.Repeat("x", 9*i+5) + "1011" + strings.Repeat("x", api.MaxBits)
		row = append(row, fmt.Sprintf("rule %d %s any(%s)", 20-i, cube[:api.MaxBits], strings.Join(ports, ",")))
	}
	row = append(row, "rule 1 "+strings.Repeat("x", api.MaxBits)+" any(p)")
	classes, heard := rowOf(t, b, strings.Join(row, ";")), entries(t, b, 5, strings.Join(kid, " "))
	same(t, "how many classes", len(classes), 12)
	size := b.Size()
	l, e := engine.Node(b, x, p, 0, 1, classes, [][]api.Entry{heard}, 5)
	if e != api.OK || !slices.Equal(l, heard) {
		t.Errorf("Node = %v, %v, want %v", l, e, heard)
	}
	same(t, "Size", b.Size(), size)
	same(t, "Check", engine.Check(b, 1, heard, 5), api.OK)
	same(t, "Size behind Check", b.Size(), size)
}

// fill tells a table sets till nothing more fits.
func fill(t *testing.T, b *bdd.Table) {
	t.Helper()
	word := uint64(12345)
	for b.Size()+b.Bits() <= b.Limit() {
		var s strings.Builder
		for s.Len() < b.Bits() {
			word = word*6364136223846793005 + 1442695040888963407
			fmt.Fprintf(&s, "%032b", word>>32)
		}
		setOf(t, b, s.String()[:b.Bits()])
	}
	// A cube of one letter has one node.
	every := strings.Repeat("x", b.Bits())
	for i := range 2 * b.Bits() {
		b.Cube(every[:i/2] + "01"[i%2:i%2+1] + every[i/2+1:])
	}
	same(t, "Size", b.Size(), b.Limit())
}

// In a table without room all goes on whose answer it has told already; else nothing but ErrFull is told.
func TestFullTables(t *testing.T) {
	every := strings.Repeat("x", api.MaxBits)
	b, x := newTable(t, api.MaxBits), network(t, api.MaxBits, "a:p b:p,q,r c:p", "a.p-b.p b.q-c.p")
	p := made(t, x, "a .* c", 3, "a c")
	rows := rowsOf(t, b, x, "all(p)", "rule 2 1"+every[1:]+" any(q,r);rule 1 "+every[1:]+"1 all(q)", "rule 1 "+every[1:]+"0 deliver")
	packets := setOf(t, b, every[:2]+"0"+every[3:])
	l := whole(t, b, x, p, packets, rows, 1)
	other := setOf(t, b, every[:3]+"01"+every[5:])
	fill(t, b)
	again := whole(t, b, x, p, packets, rows, 1)
	for n := range l {
		if !slices.Equal(again[n], l[n]) {
			t.Errorf("place %d: %v, want %v", n, again[n], l[n])
		}
	}
	if got, e := engine.Node(b, x, p, 1, packets, rows[1], [][]api.Entry{l[2]}, 1); e != api.OK || !slices.Equal(got, l[1]) {
		t.Errorf("Node = %v, %v, want %v", got, e, l[1])
	}
	none, e := engine.None(b, other, 1)
	if e != api.OK || !slices.Equal(none, []api.Entry{entry(other, 1)}) {
		t.Errorf("None = %v, %v", none, e)
	}
	same(t, "Check", engine.Check(b, other, none, 1), api.OK)
	same(t, "Check of others", engine.Check(b, packets, none, 1), api.ErrEntries)
	zeros := strings.Repeat("0", api.MaxBits)
	askAt(t, b, l[2], zeros, 2, true)
	askVerdict(t, b, l[2], 1, api.Equal, breaks(zeros[1:]+"1", 0))
	q := question{b: b, x: x, p: p, n: 2, packets: other, row: rows[2], rows: rows, bound: 1}
	askPlaces(t, "no room", q, api.ErrFull)
	same(t, "Size", b.Size(), api.MaxNodes)
}

// Of many classes, and many entries.
func TestManyClassesAndEntries(t *testing.T) {
	b := newTable(t, 14)
	var ports, links []string
	for i := range 13 {
		ports = append(ports, fmt.Sprintf("p%02d", i))
		links = append(links, fmt.Sprintf("a.p%02d-b.p%02d", i, i))
	}
	x := network(t, 14, "a:"+strings.Join(ports, ",")+" b:"+strings.Join(ports, ","), strings.Join(links, " "))
	p := planOf(nil, node(1, 0, 0, false, 1), node(2, 1, 0, true))
	// The first 12 letters tell the class, the last 12 the entry.
	var l []api.Rule
	var heard []api.Entry
	for i, h := range headersOf(12) {
		var to []string
		for k := range ports {
			if (i+1)>>k&1 == 1 {
				to = append(to, ports[k])
			}
		}
		l = append(l, api.Rule{Match: h + "xx", Action: api.Action{Kind: api.Any, Ports: to}})
		heard = append(heard, entry(setOf(t, b, "xx"+h), api.Counts(i+1)))
	}
	row := classesOf(t, b, l...)
	same(t, "how many classes", len(row), 4096)
	got, e := engine.Node(b, x, p, 0, 1, row, [][]api.Entry{heard}, 62)
	if e != api.OK || !slices.Equal(got, heard) {
		t.Errorf("Node = %d entries, %v", len(got), e)
	}
	// The same of all that are sent anywhere, and so of each class another part.
	x.Links = nil
	same(t, "the network", topo.Check(x), api.OK)
	p = planOf(nil, node(1, 0, 0, true))
	same(t, "the plan", plan.Check(x, p), api.OK)
	if got, e = engine.Node(b, x, p, 0, 1, row, nil, 62); e != api.OK || !slices.Equal(got, []api.Entry{entry(1, 1)}) {
		t.Errorf("Node without links = %d entries, %v", len(got), e)
	}
}
