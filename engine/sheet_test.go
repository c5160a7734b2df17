package engine

import (
	"fmt"
	"math/rand"
	"slices"
	"testing"

	"milestone/api"
	"milestone/bdd"
	"milestone/classes"
)

// A full sheet lets go of what is not held, and of nothing else.
func TestSweep(t *testing.T) {
	x, _ := bdd.New(4, 7)
	s := &sheet{Table: x}
	cube := func(text string) func() api.Ref { return func() api.Ref { return ref(x.Cube(text)) } }
	first := s.hold(cube("1xx1"))
	mark := len(s.held)
	s.hold(cube("0110"))
	s.letGo(mark)
	if x.Size() != 6 {
		t.Fatalf("Size = %d", x.Size())
	}
	// There is room for these two and for one with the first, once the second is swept away.
	third := s.hold(cube("x11x"))
	if x.Size() != 4 {
		t.Errorf("behind a sweep Size = %d", x.Size())
	}
	both := s.and(first, third)
	for _, held := range []struct {
		set  *set
		want string
	}{{first, "[1xx1]"}, {third, "[x11x]"}, {both, "[1111]"}} {
		if l, e := x.Cubes(held.set.ref, 9); fmt.Sprint(l) != held.want || e != api.OK {
			t.Errorf("held: %v, %v, want %s", l, e, held.want)
		}
	}
	// All of this is held: there is no room for more.
	if _, e := answer(func() *set { return s.hold(cube("0000")) }); e != api.ErrFull {
		t.Errorf("without room: %v", e)
	}
}

// someParts are a partition of all headers of four bits into a few sets.
func someParts(r *rand.Rand, x *bdd.Table, most int) []api.Ref {
	l := make([]api.Ref, 1+r.Intn(most))
	for i := range 16 {
		one, _ := x.Cube(fmt.Sprintf("%04b", i))
		at := r.Intn(len(l))
		l[at], _ = x.Or(l[at], one)
	}
	return slices.DeleteFunc(l, func(r api.Ref) bool { return r == no })
}

func someClasses(r *rand.Rand, x *bdd.Table) []api.Class {
	actions := []api.Action{{Kind: api.Drop}, {Kind: api.Deliver}, {Kind: api.All, Ports: []string{"p"}}, {Kind: api.All, Ports: []string{"p", "q"}}, {Kind: api.All, Ports: []string{"q", "r"}},
		{Kind: api.Any, Ports: []string{"p", "q"}}, {Kind: api.Any, Ports: []string{"q", "r"}}, {Kind: api.Any, Ports: []string{"r"}}}
	var l []api.Class
	for i, where := range someParts(r, x, len(actions)) {
		l = append(l, api.Class{Where: where, Action: actions[i]})
	}
	return l
}

// ringOf3 has three devices, each next to both others.
func ringOf3() network {
	var w network
	w.Width = 4
	for _, name := range []string{"a", "b", "c"} {
		w.Devices = append(w.Devices, api.Device{Name: name, Ports: []string{"p", "q", "r"}})
	}
	w.Links = []api.Link{{A: 0, PortA: "p", B: 1, PortB: "q"}, {A: 0, PortA: "q", B: 2, PortB: "p"}, {A: 1, PortA: "p", B: 2, PortB: "q"}}
	for level := 1; level <= 4; level++ {
		for device := range 3 {
			n := api.PlanNode{Level: level, Device: device, Accept: device == 2 || level == 4}
			for k := range 3 {
				if level < 4 && k != device {
					n.Kids = append(n.Kids, 3*level+k)
				}
			}
			w.Nodes = append(w.Nodes, n)
		}
	}
	return w
}

// What is worked out is the same, whatever room there is, or it is refused: nothing that is still needed is let go.
func TestWithLittleRoom(t *testing.T) {
	r := rand.New(rand.NewSource(1))
	w := ringOf3()
	told, swept := 0, 0
	for range 150 {
		x, _ := bdd.New(4, api.MaxNodes)
		rows := [][]api.Class{someClasses(r, x), someClasses(r, x), someClasses(r, x)}
		packets := someParts(r, x, 2)[0]
		for _, row := range rows {
			if e := classes.Check(x, row); e != api.OK {
				t.Fatalf("Check: %v", e)
			}
		}
		want, e := Whole(x, w.Topo, w.Plan, packets, rows, 5)
		if e != api.OK {
			t.Fatalf("Whole: %v", e)
		}
		for limit := 10; limit < 90; limit += 5 {
			got, e := answer(func() [][]api.Entry {
				small, _ := bdd.New(4, limit)
				c := &counting{sheet: &sheet{Table: small}, table: x, bound: 5}
				c.packets = c.take(packets)
				results := c.whole(w, rows)
				before := small.Size()
				if c.sweep(); small.Size() < before {
					swept++
				}
				return c.tell(results...)
			})
			if e == api.ErrFull {
				continue
			}
			told++
			if fmt.Sprint(got) != fmt.Sprint(want) || e != api.OK {
				t.Errorf("with %d nodes: %v, %v, want %v", limit, got, e, want)
			}
		}
	}
	if told < 300 || told > 2200 || swept < 200 {
		t.Errorf("told %d times of 2400, with something to let go %d times", told, swept)
	}
}

// The same of Node, which reads its Kids' results.
func TestReadingWithLittleRoom(t *testing.T) {
	r := rand.New(rand.NewSource(2))
	w := ringOf3()
	told := 0
	for range 300 {
		x, _ := bdd.New(4, api.MaxNodes)
		row := someClasses(r, x)
		var kids [][]api.Entry
		for range 2 {
			var l []api.Entry
			for i, where := range someParts(r, x, 6) {
				l = append(l, api.Entry{Where: where, Counts: api.Counts(1 + i)})
			}
			kids = append(kids, l)
		}
		want, e := Node(x, w.Topo, w.Plan, 4, yes, row, kids, 5)
		if e != api.OK {
			t.Fatalf("Node: %v", e)
		}
		for limit := 10; limit < 90; limit += 5 {
			got, e := answer(func() []api.Entry {
				small, _ := bdd.New(4, limit)
				c := &counting{sheet: &sheet{Table: small}, table: x, packets: &set{yes}, bound: 5}
				return c.tell(c.node(w, 4, row, kids))[0]
			})
			if e == api.ErrFull {
				continue
			}
			told++
			if !slices.Equal(got, want) || e != api.OK {
				t.Errorf("with %d nodes: %v, %v, want %v", limit, got, e, want)
			}
		}
	}
	if told < 600 || told > 4500 {
		t.Errorf("told %d times of 4800", told)
	}
}

// What is held in the end is what was taken, and the results: what only came up on the way may be swept.
func TestNothingMoreIsHeld(t *testing.T) {
	r := rand.New(rand.NewSource(3))
	w := ringOf3()
	for i := range 100 {
		x, _ := bdd.New(4, api.MaxNodes)
		c := newCounting(x, someParts(r, x, 2)[0], 5)
		rows := [][]api.Class{someClasses(r, x), someClasses(r, x), someClasses(r, x)}
		if i%10 == 0 {
			rows = slices.Repeat([][]api.Class{{{Where: yes, Action: api.Action{Kind: api.All, Ports: []string{"p", "q"}}}}}, 3)
		}
		most := 1
		for _, row := range rows {
			most += len(row)
		}
		for _, l := range c.whole(w, rows) {
			most += len(l)
		}
		if len(c.held) > most {
			t.Errorf("held: %d sets, more than %d", len(c.held), most)
		}
		var l []api.Entry
		for i, where := range someParts(r, x, 9) {
			l = append(l, api.Entry{Where: where, Counts: api.Counts(1 + i)})
		}
		d := newCounting(x, yes, 5, l)
		if d.read(l); len(d.held) > len(l)+1 {
			t.Errorf("held: %d sets of %d entries", len(d.held), len(l))
		}
	}
}
