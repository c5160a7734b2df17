package topo_test

import (
	"fmt"
	"math/rand"
	"slices"
	"strings"
	"testing"

	"milestone/api"
	"milestone/topo"
)

func same(t *testing.T, what string, got, want any) {
	t.Helper()
	if got != want {
		t.Errorf("%s = %v, want %v", what, got, want)
	}
}

// dev is a device with classes and ports, each told with blanks between.
func dev(name, classes, ports string) api.Device {
	return api.Device{Name: name, Classes: strings.Fields(classes), Ports: strings.Fields(ports)}
}

func devices(l ...api.Device) []api.Device { return l }

func link(a int, portA string, b int, portB string) api.Link {
	return api.Link{A: a, PortA: portA, B: b, PortB: portB}
}

func links(l ...api.Link) []api.Link { return l }

func topoOf(width int, d []api.Device, l ...api.Link) api.Topo {
	return api.Topo{Width: width, Devices: d, Links: l}
}

// triangle is three devices, each next to the other two, and c to itself.
func triangle() api.Topo {
	return topoOf(4, devices(dev("a", "core", "p q"), dev("b", "", "p q r"), dev("c", "core edge", "p q x y")),
		link(0, "p", 1, "q"), link(0, "q", 2, "p"), link(1, "p", 2, "q"), link(2, "x", 2, "y"))
}

const triangleText = "width 4\ndevice a class core port p,q\ndevice b port p,q,r\ndevice c class core,edge port p,q,x,y\n" +
	"link a p->b q\nlink a q->c p\nlink b p->c q\nlink c x->c y\n"

// names are so many that rise, behind a letter.
func names(letter string, n int) []string {
	var l []string
	for i := range n {
		l = append(l, fmt.Sprintf("%s%04d", letter, i))
	}
	return l
}

// crowd is so many devices, each with so many ports.
func crowd(n, ports int) []api.Device {
	var l []api.Device
	for _, name := range names("d", n) {
		l = append(l, api.Device{Name: name, Ports: names("p", ports)})
	}
	return l
}

// mesh is so many links, each from a port of one device to that of the next one; of a crowd with enough ports.
func mesh(n, ports int) []api.Link {
	var l []api.Link
	for i := range n {
		x, p := 2*(i/ports), fmt.Sprintf("p%04d", i%ports)
		l = append(l, link(x, p, x+1, p))
	}
	return l
}

// deep is a topology of which nothing is shared with another one.
func deep(x api.Topo) api.Topo {
	y := api.Topo{Width: x.Width, Links: slices.Clone(x.Links)}
	for _, d := range x.Devices {
		y.Devices = append(y.Devices, api.Device{Name: d.Name, Classes: slices.Clone(d.Classes), Ports: slices.Clone(d.Ports)})
	}
	return y
}

// told is all fields of a topology, as a text that can be compared.
func told(x api.Topo) string {
	var b strings.Builder
	fmt.Fprintf(&b, "%d", x.Width)
	for _, d := range x.Devices {
		fmt.Fprintf(&b, "; %q %q %q", d.Name, d.Classes, d.Ports)
	}
	for _, l := range x.Links {
		fmt.Fprintf(&b, "; %d %q %d %q", l.A, l.PortA, l.B, l.PortB)
	}
	return b.String()
}

// isZero tells whether a topology is the zero value.
func isZero(x api.Topo) bool { return x.Width == 0 && len(x.Devices) == 0 && len(x.Links) == 0 }

// askParse asks for a text's topology.
func askParse(t *testing.T, s string, want api.Topo) {
	t.Helper()
	if x, line, col, e := topo.Parse(s); told(x) != told(want) || line != 0 || col != 0 || e != api.OK {
		t.Errorf("Parse(%.200q) = %.200s at %d, %d: %v, want %.200s", s, told(x), line, col, e, told(want))
	}
}

// askFault asks for an error at its place, and that there is no topology beside it.
func askFault(t *testing.T, s string, line, col int, want api.Errno) {
	t.Helper()
	if x, gotLine, gotCol, e := topo.Parse(s); !isZero(x) || gotLine != line || gotCol != col || e != want {
		t.Errorf("Parse(%.200q) = %.80s at %d, %d: %v, want %v at %d, %d", s, told(x), gotLine, gotCol, e, want, line, col)
	}
}

// askLine asks for an error of a line behind others that are right.
func askLine(t *testing.T, s string, col int, want api.Errno) {
	t.Helper()
	askFault(t, "width 4\ndevice a class c port p,q,r\ndevice b port p\nlink a p->b p\n"+s, 5, col, want)
}

// askGoes asks that a line is right behind others that are.
func askGoes(t *testing.T, s string) {
	t.Helper()
	s = "width 4\ndevice a class c port p,q,r\ndevice b port p\nlink a p->b p\n" + s
	if _, line, col, e := topo.Parse(s); line != 0 || col != 0 || e != api.OK {
		t.Errorf("Parse(%.200q): %v at %d, %d", s, e, line, col)
	}
}

// askCheck asks Check and Print whether a topology may be.
func askCheck(t *testing.T, what string, x api.Topo, want api.Errno) {
	t.Helper()
	if e := topo.Check(x); e != want {
		t.Errorf("%s: Check(%.200s) = %v, want %v", what, told(x), e, want)
	}
	if s, e := topo.Print(x); e != want || (s == "") != (want != api.OK) {
		t.Errorf("%s: Print(%.200s) = %.80q, %v, want %v", what, told(x), s, e, want)
	}
}

// askPrint asks for a topology's text, and for the topology of that text.
func askPrint(t *testing.T, x api.Topo, want string) {
	t.Helper()
	if s, e := topo.Print(x); s != want || e != api.OK {
		t.Errorf("Print(%.200s) = %.200q, %v, want %.200q", told(x), s, e, want)
	}
	askParse(t, want, x)
}

// askFind asks for a device's number.
func askFind(t *testing.T, x api.Topo, name string, want int, there bool) {
	t.Helper()
	if n, ok := topo.Find(x, name); n != want || ok != there {
		t.Errorf("Find(%.80s, %.80q) = %d, %v, want %d, %v", told(x), name, n, ok, want, there)
	}
}

// askPeer asks for the other end of a port's link.
func askPeer(t *testing.T, x api.Topo, device int, port string, other int, otherPort string) {
	t.Helper()
	if n, p, ok := topo.Peer(x, device, port); n != other || p != otherPort || !ok {
		t.Errorf("Peer(%.80s, %d, %q) = %d, %q, %v, want %d, %q", told(x), device, port, n, p, ok, other, otherPort)
	}
}

// askNoPeer asks that a port has no link.
func askNoPeer(t *testing.T, x api.Topo, device int, port string) {
	t.Helper()
	if n, p, ok := topo.Peer(x, device, port); n != 0 || p != "" || ok {
		t.Errorf("Peer(%.80s, %d, %q) = %d, %q, %v, want none", told(x), device, port, n, p, ok)
	}
}

// askNear asks which devices are next to one.
func askNear(t *testing.T, x api.Topo, device int, want ...int) {
	t.Helper()
	if l := topo.Near(x, device); !slices.Equal(l, want) {
		t.Errorf("Near(%.80s, %d) = %v, want %v", told(x), device, l, want)
	}
}

// askWho asks for a device's name and classes, which are told with blanks between.
func askWho(t *testing.T, x api.Topo, device int, name, classes string, there bool) {
	t.Helper()
	if w, ok := topo.Who(x, device); w.Name != name || strings.Join(w.Classes, " ") != classes || ok != there {
		t.Errorf("Who(%.80s, %d) = %q, %v, want %q, %q, %v", told(x), device, w, ok, name, classes, there)
	}
}

// askSame asks Same both ways round.
func askSame(t *testing.T, what string, a, b api.Topo, want bool) {
	t.Helper()
	if topo.Same(a, b) != want || topo.Same(b, a) != want {
		t.Errorf("%s: Same(%.200s, %.200s) is not %v", what, told(a), told(b), want)
	}
}

// someNames are at most so many of a short list, rising.
func someNames(r *rand.Rand, most int) []string {
	var l []string
	for _, name := range []string{"A", "B2", "_", "class", "device", "link", "p", "p-", "p1", "p10", "port", "q", "width"} {
		if len(l) < most && r.Intn(3) == 0 {
			l = append(l, name)
		}
	}
	return l
}

// someTopo is one that may be, of few devices.
func someTopo(r *rand.Rand) api.Topo {
	x := api.Topo{Width: 1 + r.Intn(api.MaxBits)}
	for _, name := range someNames(r, 6) {
		x.Devices = append(x.Devices, api.Device{Name: name, Classes: someNames(r, 3), Ports: someNames(r, 8)})
	}
	if len(x.Devices) == 0 {
		x.Devices = devices(dev("only", "", "p q"))
	}
	var ends []api.Link
	for i, d := range x.Devices {
		for _, p := range d.Ports {
			ends = append(ends, api.Link{A: i, PortA: p})
		}
	}
	r.Shuffle(len(ends), func(i, j int) { ends[i], ends[j] = ends[j], ends[i] })
	for n := r.Intn(len(ends)/2 + 1); n > 0; n-- {
		a, b := ends[2*n-2], ends[2*n-1]
		if b.A < a.A || b.A == a.A && b.PortA < a.PortA {
			a, b = b, a
		}
		x.Links = append(x.Links, link(a.A, a.PortA, b.A, b.PortA))
	}
	slices.SortFunc(x.Links, func(a, b api.Link) int {
		if a.A != b.A {
			return a.A - b.A
		}
		return strings.Compare(a.PortA, b.PortA)
	})
	return x
}

// someText is a text of a topology that may be: lines in some order, links either way round, names of lists twice.
func someText(r *rand.Rand, x api.Topo) string {
	type device struct {
		line  string
		links []string
	}
	list := func(l []string) string {
		l = slices.Clone(l)
		for range r.Intn(3) {
			l = append(l, l[r.Intn(len(l))])
		}
		r.Shuffle(len(l), func(i, j int) { l[i], l[j] = l[j], l[i] })
		return strings.Join(l, []string{",", " , ", ", "}[r.Intn(3)])
	}
	ahead := r.Perm(len(x.Devices)) // which device's line comes when
	lines := make([]device, len(x.Devices))
	for i, d := range x.Devices {
		s := "device " + d.Name
		if len(d.Classes) > 0 {
			s += " class " + list(d.Classes)
		}
		if len(d.Ports) > 0 {
			s += " port " + list(d.Ports)
		}
		lines[ahead[i]].line = s
	}
	for _, i := range r.Perm(len(x.Links)) {
		l := x.Links[i]
		a, b := x.Devices[l.A].Name+" "+l.PortA, x.Devices[l.B].Name+" "+l.PortB
		if r.Intn(2) == 0 {
			a, b = b, a
		}
		// Behind the later one of its devices, or behind one that comes later still.
		at := max(ahead[l.A], ahead[l.B])
		at += r.Intn(len(lines) - at)
		lines[at].links = append(lines[at].links, "link "+a+" -> "+b)
	}
	out := []string{fmt.Sprint("width ", x.Width)}
	for _, d := range lines {
		out = append(append(out, d.line), d.links...)
		if r.Intn(4) == 0 {
			out = append(out, "", " # nothing")
		}
	}
	return strings.Join(out, "\n")
}
