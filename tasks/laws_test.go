package tasks_test

import (
	"fmt"
	"math/rand"
	"slices"
	"testing"

	"milestone/api"
	"milestone/plan"
	"milestone/tasks"
	"milestone/topo"
)

// P14.1: what the document's words say, of many networks and plans.
func TestSplitAsTheDocumentSays(t *testing.T) {
	r := rand.New(rand.NewSource(14))
	for range 2000 {
		x := someNetwork(t, r)
		plans := somePlans(t, r, x)
		want := modelTasks(x, plans)
		if got := split(t, x, plans...); told(got...) != told(want...) {
			t.Fatalf("Split(%v) =\n%s, want\n%s", plans, told(got...), told(want...))
		}
	}
}

// P14.1: Make is plan.Make of each, and Split of these.
func TestMakeAsTheDocumentSays(t *testing.T) {
	r := rand.New(rand.NewSource(15))
	for range 1000 {
		x := someNetwork(t, r)
		l := someInvariants(t, r, x, 5)
		got, plans := made(t, x, l...)
		same(t, "how many plans", len(plans), len(l))
		for i, v := range l {
			p, e := plan.Make(x, v)
			if e != api.OK || !plan.Same(p, plans[i]) {
				t.Fatalf("plan %d of %v is %v, want %v, %v", i, l, plans[i], p, e)
			}
		}
		same(t, "the tasks", told(got...), told(modelTasks(x, plans)...))
	}
}

// P14.5: each node of each plan is a job of just one task: that of its Device.
func TestEachNodeOnce(t *testing.T) {
	r := rand.New(rand.NewSource(16))
	for range 1000 {
		x := someNetwork(t, r)
		plans := somePlans(t, r, x)
		l := split(t, x, plans...)
		same(t, "how many tasks", len(l), len(x.Devices))
		jobs, nodes := 0, 0
		for device, y := range l {
			same(t, "Device", y.Device, device)
			jobs += len(y.Jobs)
		}
		for i, p := range plans {
			nodes += len(p.Nodes)
			for n, node := range p.Nodes {
				for device, y := range l {
					j, ok, e := tasks.Job(y, spot(i, n))
					if e != api.OK || ok != (device == node.Device) || ok && j.Spot != spot(i, n) {
						t.Fatalf("node %d of plan %d of %v: device %d has %v, %v, %v", n, i, plans, device, j, ok, e)
					}
				}
			}
		}
		same(t, "how many jobs", jobs, nodes)
	}
}

// P14.6 and P14.7: what a device hears from another one is what that one tells it, and they are next to one another, or the same; Near is just those others.
func TestBothEnds(t *testing.T) {
	r := rand.New(rand.NewSource(17))
	some, own := 0, 0
	for range 1500 {
		x := someNetwork(t, r)
		plans := somePlans(t, r, x)
		l := split(t, x, plans...)
		for a := range l {
			var with []int
			for b := range l {
				hears, e := tasks.Hears(l[a], b)
				tells, f := tasks.Tells(l[b], a)
				if e != api.OK || f != api.OK || !slices.Equal(hears, tells) {
					t.Fatalf("of %v: %d hears from %d %v, %v, which tells it %v, %v", plans, a, b, hears, e, tells, f)
				}
				some += len(hears)
				if a == b {
					own += len(hears)
				}
				if len(hears) > 0 && a != b && !slices.Contains(topo.Near(x, a), b) {
					t.Fatalf("of %v: %d hears from %d, which is not next to it", plans, a, b)
				}
				told, _ := tasks.Tells(l[a], b)
				if a != b && len(hears)+len(told) > 0 {
					with = append(with, b)
				}
			}
			askNear(t, l[a], with...)
			for _, b := range with {
				near, _ := tasks.Near(l[b])
				same(t, "near one another", slices.Contains(near, a), true)
				same(t, "next to one another", slices.Contains(topo.Near(x, a), b) && slices.Contains(topo.Near(x, b), a), true)
			}
		}
	}
	if some < 1000 || own < 100 {
		t.Errorf("just %d spots are told, %d of these to oneself", some, own)
	}
}

// P14.8: Check takes what Split and Make tell.
func TestTasksMayBe(t *testing.T) {
	r := rand.New(rand.NewSource(18))
	for range 1500 {
		x := someNetwork(t, r)
		for _, y := range split(t, x, somePlans(t, r, x)...) {
			askTask(t, "split", y)
		}
		l, _ := made(t, x, someInvariants(t, r, x, 3)...)
		for _, y := range l {
			askTask(t, "made", y)
		}
	}
}

// P14.3: each job's Kids that are own jobs stand ahead of it, and each place is told once.
func TestKidsAhead(t *testing.T) {
	r := rand.New(rand.NewSource(19))
	inner := 0
	for range 1500 {
		x := someNetwork(t, r)
		for _, y := range split(t, x, somePlans(t, r, x)...) {
			order, e := tasks.Backwards(y)
			if e != api.OK || len(order) != len(y.Jobs) {
				t.Fatalf("Backwards(%s) = %v, %v", told(y), order, e)
			}
			done := map[api.Spot]int{}
			for _, i := range order {
				j := y.Jobs[i]
				for n, k := range j.Kids {
					if _, ok, _ := tasks.Job(y, spot(j.Invariant, k)); ok {
						inner++
						same(t, "a Kid of its own, done ahead", done[spot(j.Invariant, k)], 1)
						same(t, "from itself", j.From[n], y.Device)
					}
				}
				done[j.Spot]++
				same(t, "how often", done[j.Spot], 1)
			}
		}
	}
	if inner < 100 {
		t.Errorf("just %d Kids of their own", inner)
	}
}

// Ahead of P14.2, and P14.2 to P14.4: what the document's words say, of tasks made by hand, with some faults.
func TestCallsAsTheDocumentSays(t *testing.T) {
	r := rand.New(rand.NewSource(20))
	may := 0
	for range 20000 {
		x := someTask(r)
		for range r.Intn(3) {
			spoil(r, &x)
		}
		askSame(t, "a copy", x, copyOf(x), true)
		if !modelMayBe(x) {
			askNoTask(t, "spoilt", x)
			continue
		}
		may++
		askTask(t, "spoilt or not", x)
		for _, device := range []int{-1, 0, 1, 2, 3, 4, 5, 254, 255, 256} {
			askHears(t, x, device, modelHears(x, device)...)
			askTells(t, x, device, modelTells(x, device)...)
		}
		askNear(t, x, modelNear(x)...)
		askBackwards(t, x, modelBackwards(x)...)
		for i := -1; i < 4; i++ {
			for n := -1; n < 8; n++ {
				at := slices.IndexFunc(x.Jobs, func(j api.Job) bool { return j.Invariant == i && j.Node == n })
				if at < 0 {
					askNoJob(t, x, spot(i, n))
				} else {
					askJob(t, x, x.Jobs[at])
				}
			}
		}
	}
	if may < 5000 || may > 15000 {
		t.Errorf("%d may be", may)
	}
}

// someTask is one that may be, of few jobs.
func someTask(r *rand.Rand) api.Task {
	x := api.Task{Device: r.Intn(5)}
	some := func(below, of int) []int {
		var l []int
		for n := below + 1; n < of; n++ {
			if r.Intn(3) == 0 {
				l = append(l, n)
			}
		}
		return l
	}
	for i := range 3 {
		for n := range 6 {
			if r.Intn(3) > 0 {
				continue
			}
			j := job(i, n, r.Intn(2) == 0, some(n, 9), nil, some(-1, 6))
			j.Kids = j.Kids[:min(len(j.Kids), 5)]
			j.From = r.Perm(6)[:len(j.Kids)]
			x.Jobs = append(x.Jobs, j)
		}
	}
	return x
}

// spoil changes a task in one field.
func spoil(r *rand.Rand, x *api.Task) {
	number := func() int { return []int{-1, 0, 1, 2, 3, 4, 5, 6, 63, 64, 255, 256, 16383, 16384}[r.Intn(14)] }
	if len(x.Jobs) == 0 || r.Intn(10) == 0 {
		x.Device = number()
		return
	}
	at := r.Intn(len(x.Jobs))
	j := &x.Jobs[at]
	lists := []*[]int{&j.Kids, &j.From, &j.To}
	l := lists[r.Intn(3)]
	switch r.Intn(7) {
	case 0:
		j.Invariant = number()
	case 1:
		j.Node = number()
	case 2:
		*l = append(*l, number())
	case 3:
		if len(*l) > 0 {
			(*l)[r.Intn(len(*l))] = number()
		}
	case 4:
		if len(*l) > 0 {
			*l = (*l)[1:]
		}
	case 5:
		x.Jobs = slices.Delete(x.Jobs, at, at+1)
	case 6:
		other := r.Intn(len(x.Jobs))
		x.Jobs[at], x.Jobs[other] = x.Jobs[other], x.Jobs[at]
	}
}

// P14.4: two tasks are the same just when all that stands in them is.
func TestSameAsTold(t *testing.T) {
	r := rand.New(rand.NewSource(21))
	alike := 0
	for range 20000 {
		a := someTask(r)
		b := copyOf(a)
		for range r.Intn(2) {
			spoil(r, &b)
		}
		want := told(a) == told(b)
		if want {
			alike++
		}
		askSame(t, "spoilt or not", a, b, want)
	}
	if alike < 5000 || alike > 18000 {
		t.Errorf("%d are alike", alike)
	}
}

// Rule 5: the same arguments have the same answers, whatever was asked between.
func TestAgain(t *testing.T) {
	r := rand.New(rand.NewSource(22))
	all := func(l []api.Task) string {
		s := told(l...)
		for _, x := range l {
			for n := range l {
				hears, e := tasks.Hears(x, n)
				tells, f := tasks.Tells(x, n)
				s += fmt.Sprint(hears, e, tells, f)
			}
			near, e := tasks.Near(x)
			order, f := tasks.Backwards(x)
			s += fmt.Sprint(near, e, order, f)
		}
		return s
	}
	for range 200 {
		x := someNetwork(t, r)
		plans := somePlans(t, r, x)
		want := all(split(t, x, plans...))
		askAll(someTask(r))
		for range 3 {
			same(t, "asked anew", all(split(t, x, plans...)), want)
		}
	}
}
