package topo_test

import (
	"fmt"
	"slices"
	"strings"
	"testing"

	"milestone/api"
	"milestone/topo"
)

// P11.1

func TestParseOfTheDocument(t *testing.T) {
	want := topoOf(4, devices(dev("a", "core", "p"), dev("b", "", "p q")), link(0, "p", 1, "q"))
	askParse(t, "width 4\ndevice b port p,q\ndevice a class core port p\nlink b q -> a p", want)
	askFault(t, "device a", 1, 1, api.ErrLine)
	askFault(t, "width 4\ndevice a port p\nlink a p", 3, 9, api.ErrLine)
}

func TestParseDevices(t *testing.T) {
	for s, want := range map[string]api.Device{
		"device a":                                   dev("a", "", ""),
		"device a class x":                           dev("a", "x", ""),
		"device a port p":                            dev("a", "", "p"),
		"device a class x port p":                    dev("a", "x", "p"),
		"device a class z,x,y port r,q,p":            dev("a", "x y z", "p q r"),
		"device a class x,x,x port p,q,p,q":          dev("a", "x", "p q"),
		"device a class b,a,c,a,b port p1,p10,p,p-1": dev("a", "a b c", "p p-1 p1 p10"),
		"device a class a port a":                    dev("a", "a", "a"),
		"device a class B,a,_ port b,B,A":            dev("a", "B _ a", "A B b"),
		"device a class port":                        dev("a", "port", ""),
		"device a class port port port":              dev("a", "port", "port"),
		"device a class class,port port class":       dev("a", "class port", "class"),
		"device a port class,port":                   dev("a", "", "class port"),
		"device device class device port device":     dev("device", "device", "device"),
		"device class class class":                   dev("class", "class", ""),
		"device port port port":                      dev("port", "", "port"),
		"device width":                               dev("width", "", ""),
		"\tdevice  a\tclass x , y#, z\n":             dev("a", "x y", ""),
		"#\n\ndevice _-9 port _-9":                   dev("_-9", "", "_-9"),
	} {
		askParse(t, "width 1\n"+s, topoOf(1, devices(want)))
	}
}

func TestParseDevicesInAnyOrder(t *testing.T) {
	want := topoOf(2, devices(dev("A", "", ""), dev("a", "", "p"), dev("a-", "", ""), dev("a1", "x", ""), dev("ab", "", "")))
	lines := []string{"device ab", "device a1 class x", "device a port p", "device A", "device a-"}
	for range len(lines) {
		lines = append(lines[1:], lines[0])
		askParse(t, "width 2\n"+strings.Join(lines, "\n"), want)
	}
}

func TestParseLinks(t *testing.T) {
	const head = "width 3\ndevice b port p,q,r\ndevice a port x,y,p\ndevice c port p\n"
	d := devices(dev("a", "", "p x y"), dev("b", "", "p q r"), dev("c", "", "p"))
	for s, want := range map[string][]api.Link{
		"":                                  nil,
		"link a p -> b q":                   links(link(0, "p", 1, "q")),
		"link b q -> a p":                   links(link(0, "p", 1, "q")),
		"link b q->a p":                     links(link(0, "p", 1, "q")),
		"link b r -> b p":                   links(link(1, "p", 1, "r")),
		"link b p -> b r":                   links(link(1, "p", 1, "r")),
		"link a p -> b p":                   links(link(0, "p", 1, "p")),
		"link c p -> b p\nlink b q -> a y":  links(link(0, "y", 1, "q"), link(1, "p", 2, "p")),
		"link a y -> b p\nlink b q -> a x":  links(link(0, "x", 1, "q"), link(0, "y", 1, "p")),
		"link b r -> b q\nlink c p->a p":    links(link(0, "p", 2, "p"), link(1, "q", 1, "r")),
		"link a y->a x\n\nlink b p -> a p":  links(link(0, "p", 1, "p"), link(0, "x", 0, "y")),
		"link a x->a p\n # \nlink b p->a y": links(link(0, "p", 0, "x"), link(0, "y", 1, "p")),
	} {
		askParse(t, head+s, topoOf(3, d, want...))
	}
}

// A link may stand ahead of devices that it does not name: their lines may still change the numbers.
func TestParseLinksAheadOfDevices(t *testing.T) {
	s := "width 3\ndevice m port p,q\nlink m q -> m p\ndevice z port p,q\ndevice y port p\nlink z p -> y p\ndevice a port p\nlink a p->z q\ndevice b\n"
	d := devices(dev("a", "", "p"), dev("b", "", ""), dev("m", "", "p q"), dev("y", "", "p"), dev("z", "", "p q"))
	askParse(t, s, topoOf(3, d, link(0, "p", 4, "q"), link(2, "p", 2, "q"), link(3, "p", 4, "p")))
}

func TestParseWidths(t *testing.T) {
	for w := 1; w <= api.MaxBits; w++ {
		askParse(t, fmt.Sprintf("width %d\ndevice a", w), topoOf(w, devices(dev("a", "", ""))))
	}
	askParse(t, "\n# first\n  width 8 # bits\n\n\tdevice a", topoOf(8, devices(dev("a", "", ""))))
}

func TestParseNames(t *testing.T) {
	long := strings.Repeat("n", api.MaxName)
	askParse(t, "width 1\ndevice "+long+" class "+long+" port "+long+",p\nlink "+long+" p->"+long+" "+long,
		topoOf(1, devices(dev(long, long, long+" p")), link(0, long, 0, "p")))
}

func TestParseAtTheLimits(t *testing.T) {
	classes, ports := names("c", api.MaxClasses), names("p", api.MaxPorts)
	d := api.Device{Name: "a", Classes: classes, Ports: ports}
	askParse(t, "width 1\ndevice a class "+strings.Join(classes, ",")+" port "+strings.Join(ports, ","), topoOf(1, devices(d)))
	slices.Reverse(classes)
	slices.Reverse(ports)
	// Each is counted once, wherever it stands again.
	s := "width 1\ndevice a class " + strings.Join(append(classes, classes...), ",") + " port " + strings.Join(append(ports, ports...), ",")
	d = api.Device{Name: "a", Classes: names("c", api.MaxClasses), Ports: names("p", api.MaxPorts)}
	askParse(t, s, topoOf(1, devices(d)))
	askParse(t, "width 1\ndevice a port p"+strings.Repeat(",p", 100000), topoOf(1, devices(dev("a", "", "p"))))
	for _, x := range []api.Topo{
		topoOf(1, crowd(api.MaxDevices, 0)),
		topoOf(1, crowd(api.MaxDevices, 20)),
		topoOf(1, crowd(128, api.MaxPorts), mesh(api.MaxLinks, api.MaxPorts)...),
		topoOf(1, crowd(api.MaxDevices, 32), mesh(api.MaxLinks, 32)...),
	} {
		s, e := topo.Print(x)
		same(t, "Print", e, api.OK)
		askParse(t, s, x)
	}
}

// P11.2

func TestPrint(t *testing.T) {
	askPrint(t, triangle(), triangleText)
	askPrint(t, topoOf(1, devices(dev("a", "", ""))), "width 1\ndevice a\n")
	askPrint(t, topoOf(128, devices(dev("a", "", ""))), "width 128\ndevice a\n")
	askPrint(t, topoOf(1, devices(dev("a", "x", ""))), "width 1\ndevice a class x\n")
	askPrint(t, topoOf(1, devices(dev("a", "", "x"))), "width 1\ndevice a port x\n")
	askPrint(t, topoOf(1, devices(dev("a", "x y", "p q r"))), "width 1\ndevice a class x,y port p,q,r\n")
	askPrint(t, topoOf(1, devices(dev("a", "port", ""), dev("class", "class", "port"))), "width 1\ndevice a class port\ndevice class class class port port\n")
	askPrint(t, topoOf(1, devices(dev("a", "", "p q")), link(0, "p", 0, "q")), "width 1\ndevice a port p,q\nlink a p->a q\n")
	// The last - alone is the sign's.
	askPrint(t, topoOf(1, devices(dev("a", "", "p p-")), link(0, "p", 0, "p-")), "width 1\ndevice a port p,p-\nlink a p->a p-\n")
	askPrint(t, topoOf(1, devices(dev("a", "", "p-"), dev("b-", "", "q-")), link(0, "p-", 1, "q-")), "width 1\ndevice a port p-\ndevice b- port q-\nlink a p-->b- q-\n")
}

func TestCheck(t *testing.T) {
	askCheck(t, "three", triangle(), api.OK)
	askCheck(t, "empty lists", api.Topo{Width: 1, Devices: []api.Device{{Name: "a", Classes: []string{}, Ports: []string{}}}, Links: []api.Link{}}, api.OK)
	askCheck(t, "no lists", api.Topo{Width: 1, Devices: []api.Device{{Name: "a"}}}, api.OK)
	for w := 1; w <= api.MaxBits; w++ {
		askCheck(t, "a width", topoOf(w, devices(dev("a", "", ""))), api.OK)
	}
	askCheck(t, "all devices", topoOf(1, crowd(api.MaxDevices, 3)), api.OK)
	askCheck(t, "all names", topoOf(1, []api.Device{{Name: "a", Classes: names("c", api.MaxClasses), Ports: names("p", api.MaxPorts)}}), api.OK)
	askCheck(t, "all links", topoOf(1, crowd(128, api.MaxPorts), mesh(api.MaxLinks, api.MaxPorts)...), api.OK)
	askCheck(t, "two links of two devices", topoOf(1, devices(dev("a", "", "p q"), dev("b", "", "p q")), link(0, "p", 1, "q"), link(0, "q", 1, "p")), api.OK)
	askCheck(t, "links of one device", topoOf(1, devices(dev("a", "", "p q r s")), link(0, "p", 0, "s"), link(0, "q", 0, "r")), api.OK)
	askCheck(t, "a lesser port of a greater device", topoOf(1, devices(dev("a", "", "z"), dev("b", "", "p")), link(0, "z", 1, "p")), api.OK)
	askCheck(t, "names of all kinds", topoOf(1, devices(dev("Z", "_x", "p"), dev("_", "", "p"), dev("a-1", "", "p1"))), api.OK)
}

// The chapter names no limit of a text's length: names that are long make it longer than Parse takes.
func TestPrintBeyondMaxText(t *testing.T) {
	var l []string
	for i := range api.MaxPorts {
		l = append(l, fmt.Sprintf("%s%02d", strings.Repeat("n", api.MaxName-2), i))
	}
	x := topoOf(1, crowd(api.MaxDevices, 0))
	for i := range x.Devices {
		x.Devices[i].Ports = l
		x.Devices[i].Classes = l[:api.MaxClasses]
	}
	s, e := topo.Print(x)
	same(t, "Print", e, api.OK)
	same(t, "a text that is longer than MaxText", len(s) > api.MaxText, true)
	same(t, "its lines", strings.Count(s, "\n"), 1+api.MaxDevices)
	askFault(t, s, 0, 0, api.ErrLong)
}

// P11.3

func TestFind(t *testing.T) {
	x := triangle()
	for i, d := range x.Devices {
		askFind(t, x, d.Name, i, true)
	}
	for _, name := range []string{"", "d", "A", "a ", "aa", "core", "p", "\xff", strings.Repeat("a", 1000)} {
		askFind(t, x, name, 0, false)
	}
	big := topoOf(1, crowd(api.MaxDevices, 0))
	for i, d := range big.Devices {
		askFind(t, big, d.Name, i, true)
	}
}

func TestPeer(t *testing.T) {
	x := triangle()
	askPeer(t, x, 0, "p", 1, "q")
	askPeer(t, x, 1, "q", 0, "p")
	askPeer(t, x, 0, "q", 2, "p")
	askPeer(t, x, 2, "p", 0, "q")
	askPeer(t, x, 1, "p", 2, "q")
	askPeer(t, x, 2, "q", 1, "p")
	askPeer(t, x, 2, "x", 2, "y")
	askPeer(t, x, 2, "y", 2, "x")
	askNoPeer(t, x, 1, "r")
	askNoPeer(t, x, 0, "x")
	askNoPeer(t, x, 0, "")
	askNoPeer(t, x, 3, "p")
	askNoPeer(t, x, -1, "p")
	askNoPeer(t, topoOf(1, devices(dev("a", "", "p"))), 0, "p")
}

func TestNear(t *testing.T) {
	x := triangle()
	askNear(t, x, 0, 1, 2)
	askNear(t, x, 1, 0, 2)
	askNear(t, x, 2, 0, 1, 2)
	askNear(t, x, 3)
	askNear(t, x, -1)
	two := topoOf(1, devices(dev("a", "", "p q"), dev("b", "", "p q")), link(0, "p", 1, "q"), link(0, "q", 1, "p"))
	askNear(t, two, 0, 1)
	askNear(t, two, 1, 0)
	askNear(t, topoOf(1, devices(dev("a", "", "p"))), 0)
	star := topoOf(1, crowd(64, 63))
	for i := range 63 {
		star.Links = append(star.Links, link(0, fmt.Sprintf("p%04d", i), 63-i, "p0000"))
	}
	var all []int
	for i := range 63 {
		all = append(all, i+1)
		askNear(t, star, i+1, 0)
	}
	askNear(t, star, 0, all...)
}

func TestWho(t *testing.T) {
	x := triangle()
	askWho(t, x, 0, "a", "core", true)
	askWho(t, x, 1, "b", "", true)
	askWho(t, x, 2, "c", "core edge", true)
	askWho(t, x, 3, "", "", false)
	askWho(t, x, -1, "", "", false)
}

// P11.4

func TestSame(t *testing.T) {
	askSame(t, "itself", triangle(), triangle(), true)
	askSame(t, "zero", api.Topo{}, api.Topo{}, true)
	askSame(t, "nil and empty", api.Topo{Devices: []api.Device{{Name: "a"}}},
		api.Topo{Devices: []api.Device{{Name: "a", Classes: []string{}, Ports: []string{}}}, Links: []api.Link{}}, true)
	askSame(t, "nil and empty devices", api.Topo{}, api.Topo{Devices: []api.Device{}}, true)
	for what, change := range map[string]func(x *api.Topo){
		"the width":            func(x *api.Topo) { x.Width++ },
		"one device less":      func(x *api.Topo) { x.Devices = x.Devices[:2] },
		"no device":            func(x *api.Topo) { x.Devices = nil },
		"one device more":      func(x *api.Topo) { x.Devices = append(x.Devices, api.Device{}) },
		"a device's name":      func(x *api.Topo) { x.Devices[1].Name = "B" },
		"the last one's name":  func(x *api.Topo) { x.Devices[2].Name = "" },
		"devices' order":       func(x *api.Topo) { x.Devices[0], x.Devices[1] = x.Devices[1], x.Devices[0] },
		"a class":              func(x *api.Topo) { x.Devices[2].Classes[1] = "Edge" },
		"one class less":       func(x *api.Topo) { x.Devices[0].Classes = nil },
		"one class more":       func(x *api.Topo) { x.Devices[1].Classes = []string{""} },
		"classes' order":       func(x *api.Topo) { slices.Reverse(x.Devices[2].Classes) },
		"a port":               func(x *api.Topo) { x.Devices[0].Ports[0] = "o" },
		"one port less":        func(x *api.Topo) { x.Devices[1].Ports = x.Devices[1].Ports[:2] },
		"one port more":        func(x *api.Topo) { x.Devices[1].Ports = append(x.Devices[1].Ports, "s") },
		"ports' order":         func(x *api.Topo) { slices.Reverse(x.Devices[0].Ports) },
		"ports as classes":     func(x *api.Topo) { d := &x.Devices[0]; d.Classes, d.Ports = d.Ports, d.Classes },
		"one link less":        func(x *api.Topo) { x.Links = x.Links[1:] },
		"no link":              func(x *api.Topo) { x.Links = nil },
		"one link more":        func(x *api.Topo) { x.Links = append(x.Links, api.Link{}) },
		"a link's A":           func(x *api.Topo) { x.Links[3].A = 1 },
		"a link's PortA":       func(x *api.Topo) { x.Links[0].PortA = "q" },
		"a link's B":           func(x *api.Topo) { x.Links[1].B = 1 },
		"a link's PortB":       func(x *api.Topo) { x.Links[2].PortB = "r" },
		"a link turned round":  func(x *api.Topo) { l := x.Links[0]; x.Links[0] = link(l.B, l.PortB, l.A, l.PortA) },
		"the order of links":   func(x *api.Topo) { slices.Reverse(x.Links) },
		"all of it, with zero": func(x *api.Topo) { *x = api.Topo{} },
	} {
		x := deep(triangle())
		change(&x)
		askSame(t, what, triangle(), x, false)
		askSame(t, what+", twice", x, deep(x), true)
	}
}
