package central_test

import (
	"fmt"
	"math/big"
	"math/rand"
	"slices"
	"testing"

	"milestone/api"
	"milestone/central"
	"milestone/counts"
	"milestone/plan"
)

// P15.1 and P15.2: what the document's words say, of many networks, rules and plans.
func TestCountsAsTheDocumentSays(t *testing.T) {
	r := rand.New(rand.NewSource(151))
	seen := map[api.Counts]int{}
	for range 5000 {
		x := someNetwork(t, r)
		fibs := someRows(t, r, x, "drop", "deliver", "all", "all", "all", "any", "any")
		p, header, bound := somePlan(t, r, x), someHeader(r), []int{0, 1, 2, 3, 5, 17, 61, 62}[r.Intn(8)]
		var want []api.Counts
		for n := range p.Nodes {
			want = append(want, modelCut(bound, modelNumbers(x, p, fibs, n, header)...))
			seen[want[n]]++
		}
		askCounts(t, fmt.Sprint(x, fibs, p), x, p, fibs, header, bound, sets(bound, want...))
		for i, root := range p.Roots {
			c := setOf(0)
			if root >= 0 {
				c = want[root]
			}
			for compare := api.Equal; compare <= api.Least; compare++ {
				askVerdict(t, fmt.Sprint(x, fibs, p), x, p, fibs, i, header, bound, compare, modelVerdict(c, header, bound, compare))
			}
		}
	}
	if len(seen) < 30 {
		t.Errorf("just %d sets came up", len(seen))
	}
}

// P15.3: what the document's words say, of paths of all kinds.
func TestCopiesAsTheDocumentSays(t *testing.T) {
	r := rand.New(rand.NewSource(152))
	some := 0
	for range 4000 {
		x := someNetwork(t, r)
		fibs := someRows(t, r, x, "drop", "deliver", "deliver", "all", "all", "all", "any")
		for range 20 {
			var path []int
			for range r.Intn(6) {
				path = append(path, r.Intn(len(x.Devices)))
			}
			header, most := someHeader(r), []int{0, 1, 2, 3, 7, 1 << 30}[r.Intn(6)]
			want := modelCopies(x, fibs, header, path...)
			if want.Cmp(big.NewInt(int64(most))) > 0 {
				want.SetInt64(int64(most))
			}
			some += int(want.Int64())
			askCopies(t, fmt.Sprint(x, fibs), x, fibs, header, most, int(want.Int64()), path...)
		}
	}
	if some < 1000 {
		t.Errorf("just %d copies", some)
	}
}

// P15.4: where no device does Any, the counts of a place are one number: the sum of Copies over all Paths from it, cut.
func TestByPaths(t *testing.T) {
	r := rand.New(rand.NewSource(153))
	some, many := 0, 0
	for range 3000 {
		x := someNetwork(t, r)
		fibs := someRows(t, r, x, "deliver", "all", "all")
		p, header, bound := somePlan(t, r, x), someHeader(r), []int{0, 1, 2, 9, 62}[r.Intn(5)]
		for n, c := range counted(t, x, p, fibs, header, bound) {
			paths, e := plan.Paths(p, n, 1<<20)
			if e != api.OK {
				t.Fatalf("Paths: %v", e)
			}
			sum := 0
			for _, path := range paths {
				copies, e := central.Copies(x, fibs, header, 1<<30, path...)
				if e != api.OK {
					t.Fatalf("Copies: %v", e)
				}
				sum += copies
			}
			if c != setOf(min(sum, bound+1)) {
				t.Fatalf("of %v, %v, %v, %s: place %d has %s, by paths %d", x, fibs, p, header, n, sets(bound, c), sum)
			}
			if sum > 0 {
				some++
			}
			if sum > 1 {
				many++
			}
		}
	}
	if some < 1000 || many < 100 {
		t.Errorf("just %d places come to copies, %d to several", some, many)
	}
}

// P15.4: the same of a rule of Any that the header does not meet, and of such a rule that stands behind another one.
func TestByPathsWhereNobodyChooses(t *testing.T) {
	x := inRow(t)
	p := made(t, x, "a .* c", 3, "a c")
	fibs := rowsOf(t, x, "rule 5 1x all(p);rule 4 xx any(p,q)", "rule 5 xx all(q);rule 5 0x any(q,r);rule 4 xx any(r)", "rule 0 xx deliver")
	askCounts(t, "nobody chooses", x, p, fibs, "10", 1, "{1} {1} {1}")
	askCopies(t, "nobody chooses", x, fibs, "10", 1, 1, 0, 1, 2)
	askCounts(t, "they choose", x, p, fibs, "00", 1, "{0,1} {0,1} {1}")
}

// P15.5: a device that does Any of several ports has the counts of Any of each one port, all together, where the header does not come to it again; elsewhere at least these, since it may choose anew each time.
func TestAChoice(t *testing.T) {
	r := rand.New(rand.NewSource(154))
	several, again := 0, 0
	for range 3000 {
		x := someNetwork(t, r)
		fibs := someRows(t, r, x, "drop", "deliver", "all", "all", "any", "any")
		device := r.Intn(len(x.Devices))
		ports := [][]string{{"p", "q"}, {"p", "q", "r", "t"}, {"q", "s"}, {"p", "q", "r", "s", "t", "v"}, {"r", "t", "v"}, {"t"}}[r.Intn(6)]
		p, header, bound := somePlan(t, r, x), someHeader(r), []int{0, 1, 2, 9, 62}[r.Intn(5)]
		choose := func(kind api.ActionKind, ports ...string) []api.Counts {
			fibs[device] = []api.Rule{{Priority: 1, Match: "xx", Action: api.Action{Kind: kind, Ports: ports}}}
			return counted(t, x, p, fibs, header, bound)
		}
		all := choose(api.Any, ports...)
		union := make([]api.Counts, len(p.Nodes))
		for _, port := range ports {
			one := choose(api.Any, port)
			same(t, "any of one port is all of it", fmt.Sprint(one), fmt.Sprint(choose(api.All, port)))
			for n, c := range one {
				union[n] |= c
			}
		}
		for n, place := range p.Nodes {
			if all[n]&union[n] != union[n] {
				t.Fatalf("place %d of %v: %s is not all of %s", n, p, sets(bound, all[n]), sets(bound, union[n]))
			}
			switch {
			case place.Device != device:
			case comesAgain(p, n):
				again++
			case all[n] != union[n]:
				t.Fatalf("place %d of %v: %s, by each one port %s", n, p, sets(bound, all[n]), sets(bound, union[n]))
			default:
				l, _ := counts.List(bound, all[n])
				several += len(l) - 1
			}
		}
	}
	if several < 200 || again < 200 {
		t.Errorf("just %d elements more than one, %d places to which the header comes again", several, again)
	}
}

// comesAgain tells whether a place's device is that of a place behind it, too.
func comesAgain(p api.Plan, n int) bool {
	for _, k := range p.Nodes[n].Kids {
		l, _ := plan.Devices(p, k)
		if slices.Contains(l, p.Nodes[n].Device) {
			return true
		}
	}
	return false
}

// P15.5: three ways, each of another number.
func TestAChoiceOfThree(t *testing.T) {
	x := mesh(t)
	p := made(t, x, "a b? c", 2, "a")
	for _, b := range []struct{ does, want string }{{"all(r)", "{1}"}, {"drop", "{0}"}, {"any(r,t)", "{0,1}"}} {
		askCounts(t, "any(p)", x, p, doing(t, x, "any(p)", b.does, "deliver"), "00", 9, b.want+" "+b.want+" {1} {1}")
	}
	// From a choice among b with two or none, c with one, and nobody.
	y := network(t, "a:p,q,r b:p,q,r c:p,q,r,s", "a.p-b.p a.q-c.p b.q-c.q b.r-c.r")
	q := made(t, y, "a b? c", 2, "a")
	for does, want := range map[string]string{"any(p)": "{2}", "any(q)": "{1}", "any(r)": "{0}", "any(p,q)": "{1,2}", "any(p,r)": "{0,2}", "any(q,r)": "{0,1}", "any(p,q,r)": "{0,1,2}"} {
		askCounts(t, does, y, q, doing(t, y, does, "all(q,r)", "deliver"), "00", 9, want+" {2} {1} {1}")
	}
}

// P15.1: hangs on nothing but the arguments: asked at once from several places, the answers are the same.
func TestAskedAtOnce(t *testing.T) {
	r := rand.New(rand.NewSource(155))
	x := someNetwork(t, r)
	for len(x.Links) < 4 {
		x = someNetwork(t, r)
	}
	fibs := someRows(t, r, x, "deliver", "all", "any")
	p := somePlan(t, r, x)
	want, _ := central.Counts(x, p, fibs, "11", 5)
	told := make(chan string)
	for range 8 {
		go func() {
			l, e := central.Counts(x, p, fibs, "11", 5)
			told <- fmt.Sprint(l, e)
		}()
	}
	for range 8 {
		same(t, "an answer", <-told, fmt.Sprint(want, api.OK))
	}
}
