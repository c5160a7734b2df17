package topo_test

import (
	"math/rand"
	"slices"
	"strings"
	"testing"

	"milestone/api"
	"milestone/topo"
)

// askByWords asks Parse of a text, as the document says it.
func askByWords(t *testing.T, s string) api.Errno {
	t.Helper()
	x, line, col, e := topo.Parse(s)
	want, wantLine, wantCol, wantE := parseByWords(s)
	if told(x) != told(want) || line != wantLine || col != wantCol || e != wantE {
		t.Fatalf("Parse(%q) = %s at %d, %d: %v, want %s at %d, %d: %v", s, told(x), line, col, e, told(want), wantLine, wantCol, wantE)
	}
	return e
}

// eachRow goes through all rows of so many of the words that begin with some.
func eachRow(begin []string, more int, of []string, do func(row []string)) {
	if more == 0 {
		do(begin)
		return
	}
	for _, w := range of {
		eachRow(append(slices.Clone(begin), w), more-1, of, do)
	}
}

// askRows asks Parse of all lines of so many words, behind others.
func askRows(t *testing.T, head string, begin string, more int, of string) {
	t.Helper()
	eachRow(strings.Fields(begin), more, strings.Fields(of), func(row []string) { askByWords(t, head+strings.Join(row, " ")) })
}

const ahead = "width 4\ndevice b port p,q\ndevice a class c port p\nlink b p -> a p\n"

// P11.1, of all first lines of few words.
func TestFirstLinesByWords(t *testing.T) {
	for more := range 5 {
		askRows(t, "", "", more, "width device link 1 0 128 129 04 -> , a")
		askRows(t, "\n #\n ", "width", more, "width device 1 0 128 129 -> , a")
	}
	askRows(t, "width 4\n", "", 4, "width device link class port a b 4 , ->")
}

// P11.1, of all lines of few words behind others.
func TestShortLinesByWords(t *testing.T) {
	for more := range 5 {
		askRows(t, ahead, "", more, "width device link class port a c p q 7 , -> -")
	}
}

// P11.1, of lines that begin as that of a device does.
func TestDeviceLinesByWords(t *testing.T) {
	for more := range 6 {
		askRows(t, ahead, "device d", more, "class port a p 7 , ->")
		askRows(t, ahead, "device d class", more, "class port a , 7")
		askRows(t, ahead, "device d class a , b port p", more, "class port a , 7")
	}
	askRows(t, ahead, "device d class", 8, "port a ,")
}

// P11.1, of lines that begin as that of a link does.
func TestLinkLinesByWords(t *testing.T) {
	for more := range 6 {
		askRows(t, "width 4\ndevice a port p,q\ndevice b port p\n", "link", more, "a b c p q -> 7 ,")
		askRows(t, ahead, "link b q ->", min(more, 4), "a b c p q -> 7 ,")
	}
	askRows(t, "width 4\ndevice a port p,q\ndevice b port p\nlink a q->b p\ndevice c port p\n", "link a p", 4, "a b c p q -> 7 ,")
}

// someLines are lines that go with one another, or do not.
const someLines = `device a port p,q
device a
device b class x port p
device b port q,p,q
link a p -> b p
link b q -> a p
link a q -> a p
link b p -> b q
  link a q
width 4
# none`

// P11.1, of all texts of few lines.
func TestTextsByWords(t *testing.T) {
	lines := strings.Split(someLines, "\n")
	for more := range 6 {
		eachRow([]string{"width 4"}, more, lines, func(row []string) {
			askByWords(t, strings.Join(row, "\n"))
		})
	}
}

// spoiltText is a text with some of its words left out, doubled, changed or swapped.
func spoiltText(r *rand.Rand, s string) string {
	lines := strings.Split(s, "\n")
	for range 1 + r.Intn(2) {
		i, j := r.Intn(len(lines)), r.Intn(len(lines))
		l := strings.Fields(strings.NewReplacer(",", " , ", "->", " -> ").Replace(lines[i]))
		if len(l) == 0 {
			continue
		}
		k := r.Intn(len(l))
		switch r.Intn(7) {
		case 0:
			l = slices.Delete(l, k, k+1)
		case 1:
			l = slices.Insert(l, k, l[k])
		case 2:
			l[k] = strings.Fields("width device link class port p q p1 A _ , -> - 7 0 (")[r.Intn(16)]
		case 3:
			l = l[:k]
		case 4:
			lines[i], lines[j] = lines[j], lines[i]
			continue
		case 5:
			lines = slices.Insert(lines, j, lines[i])
			continue
		case 6:
			m := r.Intn(len(l))
			l[k], l[m] = l[m], l[k]
		}
		lines[i] = strings.Join(l, " ")
	}
	return strings.Join(lines, "\n")
}

// P11.1, of texts that are right, and of some that nearly are.
func TestSomeTextsByWords(t *testing.T) {
	r := rand.New(rand.NewSource(11))
	come := map[api.Errno]int{}
	for range 6000 {
		x := someTopo(r)
		s := someText(r, x)
		if e := askByWords(t, s); e != api.OK {
			t.Fatalf("Parse(%q): %v", s, e)
		}
		askParse(t, s, x)
		come[askByWords(t, spoiltText(r, s))]++
	}
	for _, e := range []api.Errno{api.OK, api.ErrLine, api.ErrNumber, api.ErrRange, api.ErrName, api.ErrTwice, api.ErrUnknown} {
		if come[e] == 0 {
			t.Errorf("%v never came", e)
		}
	}
}

// spoiltTopo is a topology with some of its fields changed, so that it may be or not.
func spoiltTopo(r *rand.Rand, x api.Topo) api.Topo {
	x = deep(x)
	texts := []string{"", "A", "B2", "_", "p", "p-", "p1", "q", "width", "7", "%", "zz"}
	text := texts[r.Intn(len(texts))]
	d := &x.Devices[r.Intn(len(x.Devices))]
	var l *api.Link
	if len(x.Links) > 0 {
		l = &x.Links[r.Intn(len(x.Links))]
	} else {
		l = &api.Link{}
	}
	near := func(n *int) { *n += r.Intn(3) - 1 }
	switch r.Intn(13) {
	case 0:
		x.Width += r.Intn(257) - 128
	case 1:
		d.Name = text
	case 2:
		d.Classes = slices.Insert(d.Classes, r.Intn(len(d.Classes)+1), text)
	case 3:
		d.Ports = slices.Insert(d.Ports, r.Intn(len(d.Ports)+1), text)
	case 4:
		d.Ports = d.Ports[r.Intn(len(d.Ports)+1):]
	case 5:
		near(&l.A)
	case 6:
		near(&l.B)
	case 7:
		l.PortA = text
	case 8:
		l.PortB = text
	case 9:
		x.Links = append(x.Links, *l)
	case 10:
		i, j := r.Intn(len(x.Links)+1), r.Intn(len(x.Links)+1)
		if max(i, j) < len(x.Links) {
			x.Links[i], x.Links[j] = x.Links[j], x.Links[i]
		}
	case 11:
		*l = link(l.B, l.PortB, l.A, l.PortA)
	case 12:
		x.Devices = x.Devices[:r.Intn(len(x.Devices)+1)]
	}
	return x
}

// P11.2, P11.3, P11.4 and P11.5, of topologies that may be, and of some that nearly are.
func TestSomeTopologiesByWords(t *testing.T) {
	r := rand.New(rand.NewSource(112))
	come := map[api.Errno]int{}
	for range 10000 {
		x := someTopo(r)
		askCheck(t, "one that may be", x, api.OK)
		askPrint(t, x, printByWords(x))
		askBothEnds(t, x)
		y := spoiltTopo(r, x)
		want := api.ErrTopo
		if mayBeByWords(y) {
			want = api.OK
			askPrint(t, y, printByWords(y))
			askBothEnds(t, y)
		}
		come[want]++
		askCheck(t, "one that is changed", y, want)
		askSame(t, "one that is changed", x, y, told(x) == told(y))
		askCallsByWords(t, y)
		if t.Failed() {
			return
		}
	}
	if come[api.OK] < 1000 || come[api.ErrTopo] < 1000 {
		t.Errorf("may be, may not be: %v", come)
	}
}

// askCallsByWords asks Find, Peer, Near and Who of any topology, as the document says them.
func askCallsByWords(t *testing.T, x api.Topo) {
	t.Helper()
	for _, n := range []string{"", "A", "p", "only", "width"} {
		i := slices.IndexFunc(x.Devices, func(d api.Device) bool { return d.Name == n })
		askFind(t, x, n, max(i, 0), i >= 0)
	}
	for device := -1; device <= len(x.Devices)+1; device++ {
		there := device >= 0 && device < len(x.Devices)
		var w api.Who
		if there {
			w = api.Who{Name: x.Devices[device].Name, Classes: x.Devices[device].Classes}
		}
		askWho(t, x, device, w.Name, strings.Join(w.Classes, " "), there)
		var near []int
		for other := -5; other < 300; other++ {
			if slices.ContainsFunc(x.Links, func(l api.Link) bool { return l.A == device && l.B == other || l.B == device && l.A == other }) {
				near = append(near, other)
			}
		}
		askNear(t, x, device, near...)
		for _, p := range []string{"", "p", "p1", "q", "7", "link"} {
			i := slices.IndexFunc(x.Links, func(l api.Link) bool { return l.A == device && l.PortA == p || l.B == device && l.PortB == p })
			if i < 0 {
				askNoPeer(t, x, device, p)
			} else if l := x.Links[i]; l.A == device && l.PortA == p {
				askPeer(t, x, device, p, l.B, l.PortB)
			} else {
				askPeer(t, x, device, p, l.A, l.PortA)
			}
		}
	}
}

// askBothEnds asks P11.6 of a topology that may be.
func askBothEnds(t *testing.T, x api.Topo) {
	t.Helper()
	linked := 0
	for i, d := range x.Devices {
		for _, p := range d.Ports {
			other, port, ok := topo.Peer(x, i, p)
			if !ok {
				continue
			}
			linked++
			same(t, "the other end is another port", other != i || port != p, true)
			askPeer(t, x, other, port, i, p)
			same(t, "the other end is next", slices.Contains(topo.Near(x, i), other), true)
		}
		for _, other := range topo.Near(x, i) {
			same(t, "next both ways", slices.Contains(topo.Near(x, other), i), true)
		}
	}
	same(t, "ends of links", linked, 2*len(x.Links))
}

// P11.5: what is read is printed so that it is read as the same, and is printed again as it was.
func TestThereAndBack(t *testing.T) {
	r := rand.New(rand.NewSource(115))
	for range 5000 {
		x, _, _, e := topo.Parse(someText(r, someTopo(r)))
		same(t, "Parse", e, api.OK)
		s, e := topo.Print(x)
		same(t, "Print", e, api.OK)
		y, _, _, e := topo.Parse(s)
		same(t, "Parse of Print", e, api.OK)
		again, e := topo.Print(y)
		same(t, "Print again", e, api.OK)
		if !topo.Same(x, y) || again != s || told(x) != told(y) {
			t.Fatalf("%q is read as %s, printed as %q", s, told(y), again)
		}
	}
}

// P11.6 of many devices.
func TestBothEndsOfMany(t *testing.T) {
	askBothEnds(t, triangle())
	askBothEnds(t, topoOf(1, crowd(128, api.MaxPorts), mesh(api.MaxLinks, api.MaxPorts)...))
	ring := topoOf(1, crowd(api.MaxDevices, 2))
	for i := range api.MaxDevices - 1 {
		ring.Links = append(ring.Links, link(i, "p0001", i+1, "p0000"))
	}
	ring.Links = slices.Insert(ring.Links, 0, link(0, "p0000", api.MaxDevices-1, "p0001"))
	askCheck(t, "a ring", ring, api.OK)
	askBothEnds(t, ring)
	for i := range api.MaxDevices {
		near := []int{(i + api.MaxDevices - 1) % api.MaxDevices, (i + 1) % api.MaxDevices}
		slices.Sort(near)
		askNear(t, ring, i, near...)
	}
}

// The same lines in any order, and with links turned round, are the same topology.
func TestWhateverTheOrder(t *testing.T) {
	r := rand.New(rand.NewSource(116))
	for range 2000 {
		x := someTopo(r)
		a, _, _, _ := topo.Parse(someText(r, x))
		b, _, _, _ := topo.Parse(someText(r, x))
		askSame(t, "two texts", a, b, true)
		askSame(t, "the topology", a, x, true)
	}
}

// Any bytes at all are answered, with a place just where there is an error that has one.
func TestAnyBytes(t *testing.T) {
	r := rand.New(rand.NewSource(117))
	for range 20000 {
		s := []byte(someText(r, someTopo(r)))
		for range 1 + r.Intn(3) {
			s[r.Intn(len(s))] = byte(r.Intn(256))
		}
		askByWords(t, string(s))
	}
}
