package plan_test

import (
	"fmt"
	"math/rand"
	"slices"
	"testing"

	"milestone/api"
	"milestone/plan"
	"milestone/regex"
	"milestone/topo"
)

// P13.1: what the document's words say, of many networks and invariants.
func TestMakeAsTheDocumentSays(t *testing.T) {
	r := rand.New(rand.NewSource(13))
	for range 3000 {
		x := someNetwork(t, r)
		v := someInvariant(t, r, x, 9)
		want, _ := modelPlan(x, v)
		p := made(t, x, v)
		if told(p) != told(want) {
			text, _ := regex.Print(v.Path)
			net, _ := topo.Print(x)
			t.Fatalf("Make(%s, %s from %v, %d hops) = %s, want %s", net, text, v.Ingress, v.Hops, told(p), told(want))
		}
		askSame(t, "made twice", p, made(t, x, v), true)
	}
}

// P13.1: with networks as great as may be: just those of too many places are refused.
func TestMakeUpToTheLimit(t *testing.T) {
	r := rand.New(rand.NewSource(14))
	refused, taken := 0, 0
	for range 12 {
		x := loops(t, 240+r.Intn(17), "", "")
		v := invariant(t, []string{".*", ".* d000", ". .* d001 .*", "d000 | . . .*"}[r.Intn(4)], 50+r.Intn(15), allOf(x))
		want, many := modelPlan(x, v)
		p, e := plan.Make(x, v)
		switch {
		case many > api.MaxPlan:
			refused++
			same(t, "an error", e, api.ErrMany)
			same(t, "nothing", isZero(p), true)
		default:
			taken++
			same(t, "no error", e, api.OK)
			same(t, "the plan", plan.Same(p, want), true)
		}
	}
	if refused == 0 || taken == 0 {
		t.Errorf("%d refused, %d taken", refused, taken)
	}
}

// P13.5: Paths from a root are the right paths from its ingress, of regex.Match alone; of an ingress without a root there is none.
func TestPathsAreTheRightOnes(t *testing.T) {
	r := rand.New(rand.NewSource(15))
	some := 0
	for range 1500 {
		x := someNetwork(t, r)
		v := someInvariant(t, r, x, 5)
		p := made(t, x, v)
		for i, name := range v.Ingress {
			var got [][]int
			if p.Roots[i] >= 0 {
				got, _ = plan.Paths(p, p.Roots[i], 1<<30)
			}
			want := rightPaths(x, v, name)
			some += len(want)
			slices.SortFunc(got, slices.Compare[[]int])
			slices.SortFunc(want, slices.Compare[[]int])
			if fmt.Sprint(got) != fmt.Sprint(want) {
				text, _ := regex.Print(v.Path)
				t.Fatalf("paths of %s from %s, %d hops: %.300s, want %.300s", text, name, v.Hops, fmt.Sprint(got), fmt.Sprint(want))
			}
		}
	}
	if some < 1000 {
		t.Errorf("just %d paths", some)
	}
}

// P13.6 and P13.7: Check takes what Make tells; each place is reached from one of level 1 and reaches one with Accept.
func TestPlansMayBeAndAreLeast(t *testing.T) {
	r := rand.New(rand.NewSource(16))
	for range 3000 {
		x := someNetwork(t, r)
		p := made(t, x, someInvariant(t, r, x, 12))
		askCheck(t, "made", x, p, api.OK)
		askLeast(t, p)
		for i, root := range p.Roots {
			if root >= 0 {
				same(t, "a root's level", p.Nodes[root].Level, 1)
				same(t, "a root's paths", len(devices(t, p, root)) > 0, true)
			}
			same(t, "a root twice", root >= 0 && slices.Contains(p.Roots[:i], root), false)
		}
	}
}

func askLeast(t *testing.T, p api.Plan) {
	t.Helper()
	reached, leads := make([]bool, len(p.Nodes)), make([]bool, len(p.Nodes))
	for n, k := range p.Nodes {
		reached[n] = reached[n] || k.Level == 1
		for _, kid := range k.Kids {
			reached[kid] = reached[kid] || reached[n]
		}
	}
	for n := len(p.Nodes) - 1; n >= 0; n-- {
		leads[n] = p.Nodes[n].Accept
		for _, kid := range p.Nodes[n].Kids {
			leads[n] = leads[n] || leads[kid]
		}
		if !reached[n] || !leads[n] {
			t.Fatalf("node %d of %s is reached: %v, leads to Accept: %v", n, told(p), reached[n], leads[n])
		}
		if l, e := plan.Paths(p, n, 0); e != api.ErrMany {
			t.Fatalf("Paths from node %d of %s: %v, %v", n, told(p), l, e)
		}
	}
}

// P13.2: what the document's words say, of plans with some faults.
func TestCheckAsTheDocumentSays(t *testing.T) {
	r := rand.New(rand.NewSource(17))
	may := 0
	for range 20000 {
		x := someNetwork(t, r)
		p := made(t, x, someInvariant(t, r, x, 4))
		for range r.Intn(3) {
			spoil(r, &p)
		}
		want := modelMayBe(x, p)
		if want {
			may++
		}
		askCheck(t, "spoilt", x, p, map[bool]api.Errno{false: api.ErrPlan}[want])
	}
	if may < 5000 || may > 15000 {
		t.Errorf("%d may be", may)
	}
}

// spoil changes a plan in one field.
func spoil(r *rand.Rand, p *api.Plan) {
	some := func() int { return r.Intn(len(p.Nodes)+4) - 2 }
	if len(p.Nodes) == 0 || r.Intn(8) == 0 {
		p.Roots = append(p.Roots, some())
		return
	}
	at := r.Intn(len(p.Nodes))
	n := &p.Nodes[at]
	switch r.Intn(8) {
	case 0:
		n.Level += r.Intn(3) - 1
	case 1:
		n.Device += r.Intn(3) - 1
	case 2:
		n.State += r.Intn(3) - 1
	case 3:
		n.Accept = !n.Accept
	case 4:
		n.Kids = append(n.Kids, some())
		slices.Sort(n.Kids)
	case 5:
		if len(n.Kids) > 0 {
			n.Kids[r.Intn(len(n.Kids))] = some()
		}
	case 6:
		p.Nodes = slices.Delete(p.Nodes, at, at+1)
	case 7:
		other := r.Intn(len(p.Nodes))
		p.Nodes[at], p.Nodes[other] = p.Nodes[other], p.Nodes[at]
	}
}

// P13.3: what the document's words say, of any plans that go up: Kids in some order, some of them twice.
func TestFromAsTheDocumentSays(t *testing.T) {
	r := rand.New(rand.NewSource(18))
	for range 3000 {
		p := somePlan(r)
		for n := range p.Nodes {
			want := modelPaths(p, n)
			askPaths(t, p, n, fmt.Sprint(want))
			askDevices(t, p, n, modelDevices(p, n)...)
			for device := -1; device < 6; device++ {
				at := slices.IndexFunc(p.Nodes[n].Kids, func(k int) bool { return p.Nodes[k].Device == device })
				if at < 0 {
					askKid(t, p, n, device, 0, false)
				} else {
					askKid(t, p, n, device, p.Nodes[n].Kids[at], true)
				}
			}
		}
	}
}

// somePlan is one of few nodes whose Kids are above their own number.
func somePlan(r *rand.Rand) api.Plan {
	var p api.Plan
	many := 1 + r.Intn(7)
	for i := range many {
		n := node(r.Intn(4), r.Intn(6)-1, r.Intn(3), r.Intn(2) == 0)
		for range r.Intn(4) {
			if i+1 < many {
				n.Kids = append(n.Kids, i+1+r.Intn(many-i-1))
			}
		}
		p.Nodes = append(p.Nodes, n)
	}
	return p
}
