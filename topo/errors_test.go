package topo_test

import (
	"fmt"
	"math"
	"slices"
	"strings"
	"testing"
	"unsafe"

	"milestone/api"
	"milestone/topo"
)

// noNames are words of which none is a name.
func noNames() []string {
	return []string{"1", "0", "7a", "-", "-a", "--", "->", "==", "<=", "(", ")", "|", "*", ".", "$", "=", "<", strings.Repeat("n", api.MaxName+1), strings.Repeat("n", 100000)}
}

// P11.1: what words tells of a text comes ahead of all that is wrong with its lines.
func TestFaultsOfWords(t *testing.T) {
	askFault(t, "%", 1, 1, api.ErrByte)
	askFault(t, "width 4\ndevice a;", 2, 9, api.ErrByte)
	askFault(t, "device a\n\n  /", 3, 3, api.ErrByte)
	askFault(t, "width 4\r\ndevice a", 1, 8, api.ErrByte)
	askFault(t, "width 0\ndevice a\ndevice a\nlink caf\u00e9", 4, 9, api.ErrByte)
	askFault(t, strings.Repeat(" ", api.MaxText+1), 0, 0, api.ErrLong)
	askFault(t, "device"+strings.Repeat("%", api.MaxText), 0, 0, api.ErrLong)
	askFault(t, "width 4\ndevice a#"+strings.Repeat("%", api.MaxText), 0, 0, api.ErrLong)
	s := "width 4\ndevice a#"
	askParse(t, s+strings.Repeat("%", api.MaxText-len(s)), topoOf(4, devices(dev("a", "", ""))))
}

func TestTextsWithoutWords(t *testing.T) {
	for _, s := range []string{"", "\n", "  \t", "# width 4", "\n\n # %\n\t\n", strings.Repeat(" ", api.MaxText), strings.Repeat("\n", api.MaxText)} {
		askFault(t, s, 0, 0, api.ErrLine)
	}
}

func TestTextsWithoutADevice(t *testing.T) {
	for _, s := range []string{"width 4", "width 1\n", "\n width 128 # device a\n\n# device b"} {
		askFault(t, s, 0, 0, api.ErrTopo)
	}
	// That is told at the end: a fault of a line comes ahead.
	askFault(t, "width 4 4", 1, 9, api.ErrLine)
	askFault(t, "width 4\nlink a p -> a q", 2, 6, api.ErrUnknown)
	askFault(t, "width 4\nlink", 2, 5, api.ErrName)
	askFault(t, "width 4\nwidth 4", 2, 1, api.ErrLine)
}

func TestFirstLines(t *testing.T) {
	for _, s := range []string{"device a", "link a p -> b p", "link", "Width 4", "widths 4", "4", "->", "(", "port p", "class", "a", "wid th 4"} {
		askFault(t, s, 1, 1, api.ErrLine)
		askFault(t, "\n # first\n  "+s+"\nwidth 4\ndevice a", 3, 3, api.ErrLine)
	}
	askFault(t, "device a\nwidth 4", 1, 1, api.ErrLine)
	askFault(t, "device a device b\nwidth 0", 1, 1, api.ErrLine)
}

func TestWidths(t *testing.T) {
	for s, want := range map[string]api.Errno{
		"0": api.ErrRange, "129": api.ErrRange, "1000": api.ErrRange, "2147483647": api.ErrRange,
		"2147483648": api.ErrNumber, "18446744073709551617": api.ErrNumber, "4294967300": api.ErrNumber, strings.Repeat("1", 1000): api.ErrNumber,
		"04": api.ErrNumber, "00": api.ErrNumber, "-1": api.ErrNumber, "-": api.ErrNumber, "4x": api.ErrNumber, "0x4": api.ErrNumber, "four": api.ErrNumber, "width": api.ErrNumber,
		"+4": api.ErrNumber, "(4": api.ErrNumber, ",": api.ErrNumber, "->": api.ErrNumber, "_4": api.ErrNumber,
	} {
		askFault(t, "width "+s, 1, 7, want)
		askFault(t, "width "+s+" 4 device", 1, 7, want)
		askFault(t, "\n\twidth  "+s+"\ndevice 5", 2, 9, want)
	}
	askFault(t, "width", 1, 6, api.ErrNumber)
	askFault(t, "width  # 4", 1, 6, api.ErrNumber)
	askFault(t, " width\t\ndevice a", 1, 7, api.ErrNumber)
	askFault(t, "width 4 device a", 1, 9, api.ErrLine)
	askFault(t, "width 4,5", 1, 8, api.ErrLine)
	askFault(t, "width 4 5 6", 1, 9, api.ErrLine)
	askFault(t, "width 1.5", 1, 8, api.ErrLine)
}

func TestFirstWords(t *testing.T) {
	for _, s := range []string{"width 4", "width", "width x", "Device b", "devices b", "links", "class c", "port p", "a", "5", "->", ",", "(link)", "-link"} {
		askLine(t, s, 1, api.ErrLine)
		askLine(t, " \t"+s+" # "+s, 3, api.ErrLine)
		askLine(t, s+"\n5", 1, api.ErrLine)
	}
	askFault(t, "width 4\ndevice a\nwidth 4", 3, 1, api.ErrLine)
}

// Each place of a line at which a word is wanting, with blanks and a remark behind it.
func TestWordsThatAreWanting(t *testing.T) {
	for s, want := range map[string]api.Errno{
		"device":                   api.ErrName,
		"device c class":           api.ErrName,
		"device c port":            api.ErrName,
		"device c class x port":    api.ErrName,
		"device c class x,":        api.ErrName,
		"device c class x,y,":      api.ErrName,
		"device c port p,":         api.ErrName,
		"device c port p,q,":       api.ErrName,
		"device c class x port p,": api.ErrName,
		"link":                     api.ErrName,
		"link a":                   api.ErrName,
		"link a q":                 api.ErrLine,
		"link a q ->":              api.ErrName,
		"link a q -> a":            api.ErrName,
	} {
		for _, behind := range []string{"", "  ", " \t # link a p", "\n", "\n5", "\ndevice a"} {
			askLine(t, s+behind, len(s)+1, want)
			askLine(t, "  "+s+behind, len(s)+3, want)
		}
	}
}

func TestWordsWithWhichALineDoesNotGoOn(t *testing.T) {
	for s, col := range map[string]int{
		"device c d":                  10,
		"device c 5":                  10,
		"device c ,":                  10,
		"device c,d":                  9,
		"device c ->":                 10,
		"device c link":               10,
		"device c classes x":          10,
		"device c Class x":            10,
		"device c class x y":          18,
		"device c class x class y":    18,
		"device c class x 5":          18,
		"device c class x(y)":         17,
		"device c class x,y z":        20,
		"device c class x -> y":       18,
		"device c class port p":       21,
		"device c port p q":           17,
		"device c port p port q":      17,
		"device c port p class x":     17,
		"device c port p,q class x":   19,
		"device c class x port p,q r": 27,
		"device c port p|q":           16,
		"link a q a r":                10,
		"link a q = a r":              10,
		"link a q > a r":              10,
		"link a q <= a r":             10,
		"link a q , a r":              10,
		"link a q - > a r":            10,
		"link a q 5":                  10,
		"link a q -> a r r":           17,
		"link a q -> a r -> b p":      17,
		"link a q -> a r,b p":         16,
		"link a q -> a r 5":           17,
	} {
		askLine(t, s, col, api.ErrLine)
		askLine(t, "\t"+s+" ( 5\n( 5", col+1, api.ErrLine)
	}
}

func TestNoNames(t *testing.T) {
	for _, w := range noNames() {
		for s, col := range map[string]int{
			"device W":                      8,
			"device W W":                    8,
			"device W class x port p":       8,
			"device c class W":              16,
			"device c class x,W":            18,
			"device c class x,y,W,z port p": 20,
			"device c port W":               15,
			"device c port p,W":             17,
			"device c class x port p,q,W r": 27,
			"link W":                        6,
			"link W p -> a q":               6,
			"link a W":                      8,
			"link a W -> a q":               8,
			"link a q -> W":                 13,
			"link a q -> W p":               13,
			"link a q -> a W":               15,
			"link a q -> a W W":             15,
		} {
			askLine(t, strings.ReplaceAll(s, "W", w), col, api.ErrName)
		}
	}
	askLine(t, "device ,", 8, api.ErrName)
	askLine(t, "device c class ,x", 16, api.ErrName)
	askLine(t, "device c class x,,y", 18, api.ErrName)
	askLine(t, "device c port,p", 14, api.ErrName)
	askLine(t, "link , a", 6, api.ErrName)
}

func TestTwice(t *testing.T) {
	askLine(t, "device a", 8, api.ErrTwice)
	askLine(t, "device b port p", 8, api.ErrTwice)
	askLine(t, "  device\ta 5", 10, api.ErrTwice)
	askFault(t, "width 4\ndevice a\ndevice b\ndevice A\ndevice a", 5, 8, api.ErrTwice)
	askFault(t, "width 4\ndevice a\ndevice a", 3, 8, api.ErrTwice)
	// Either end of the link that has it, at either end.
	askLine(t, "link a p -> a q", 8, api.ErrTwice)
	askLine(t, "link b p -> a q", 8, api.ErrTwice)
	askLine(t, "link a q -> a p", 15, api.ErrTwice)
	askLine(t, "link a q -> b p", 15, api.ErrTwice)
	askLine(t, "link a p -> b p", 8, api.ErrTwice)
	askLine(t, "link b p -> a p", 8, api.ErrTwice)
	askLine(t, "link b p", 8, api.ErrTwice)
	// Both ends of one link.
	askLine(t, "link a q -> a q", 15, api.ErrTwice)
	askLine(t, "link a q -> a q 5", 15, api.ErrTwice)
	askGoes(t, "link a q -> a r")
	askFault(t, "width 4\ndevice a port p,q,r\nlink a r -> a q\nlink a p -> a r", 4, 15, api.ErrTwice)
	askFault(t, "width 4\ndevice a port p,q,r\nlink a r -> a q\nlink a q -> a p", 4, 8, api.ErrTwice)
	// What has the same name elsewhere is not the same.
	askGoes(t, "device p class a port a,b\nlink p a -> a q\nlink a r -> p b")
}

func TestUnknown(t *testing.T) {
	askLine(t, "link c p -> a q", 6, api.ErrUnknown)
	askLine(t, "link A p -> a q", 6, api.ErrUnknown)
	askLine(t, "link p a -> a q", 6, api.ErrUnknown)
	askLine(t, "link c", 6, api.ErrUnknown)
	askLine(t, "link c 5", 6, api.ErrUnknown)
	askLine(t, "link a x", 8, api.ErrUnknown)
	askLine(t, "link a c -> b p", 8, api.ErrUnknown)
	askLine(t, "link b q -> a q", 8, api.ErrUnknown)
	askLine(t, "link a q -> c p", 13, api.ErrUnknown)
	askLine(t, "link a q -> a P", 15, api.ErrUnknown)
	askLine(t, "link a q -> b q", 15, api.ErrUnknown)
	askLine(t, "link a q -> b r 5", 15, api.ErrUnknown)
	// That a later line has it is too late.
	askLine(t, "link a q -> c p\ndevice c port p", 13, api.ErrUnknown)
	askLine(t, "link c p -> a q\ndevice c port p", 6, api.ErrUnknown)
	askGoes(t, "device c port p\nlink a q -> c p")
	// A device without ports has none.
	askFault(t, "width 4\ndevice a port p\ndevice c class p\nlink a p -> c p", 4, 15, api.ErrUnknown)
}

func TestTooManyNames(t *testing.T) {
	classes, ports := names("c", api.MaxClasses+2), names("p", api.MaxPorts+2)
	for _, turn := range []bool{false, true} {
		if turn {
			slices.Reverse(classes)
			slices.Reverse(ports)
		}
		for of, l := range map[string][]string{"class": classes, "port": ports} {
			// The place is that of the first name that is too many, whatever stands twice ahead of it and behind it.
			most := len(l) - 2
			head := "device c " + of + " " + strings.Join(l[:most], ",") + "," + l[0] + "," + l[most-1] + ","
			askLine(t, head+l[most], len(head)+1, api.ErrMany)
			askLine(t, head+l[most]+","+l[most+1], len(head)+1, api.ErrMany)
			askLine(t, head+l[most]+",5 (", len(head)+1, api.ErrMany)
			askLine(t, head+l[most]+",", len(head)+1, api.ErrMany)
			askLine(t, head+"5,"+l[most], len(head)+1, api.ErrName)
			askLine(t, head, len(head)+1, api.ErrName)
			askGoes(t, head+l[1])
		}
	}
	// Classes and ports are counted each for themselves, and by devices.
	all := "class " + strings.Join(classes[:api.MaxClasses], ",") + " port " + strings.Join(ports[:api.MaxPorts], ",")
	askGoes(t, "device c "+all+"\ndevice d "+all)
}

// A list with many names, all alike or not, is read to its end.
func TestLongLists(t *testing.T) {
	head := "device c port p"
	askLine(t, head+strings.Repeat(",p", 100000)+" q", len(head)+200002, api.ErrLine)
	askLine(t, "device c class "+strings.Repeat("p", 100000), 16, api.ErrName)
}

func TestTooManyDevices(t *testing.T) {
	s, e := topo.Print(topoOf(4, crowd(api.MaxDevices, 2)))
	same(t, "Print", e, api.OK)
	line := api.MaxDevices + 2
	askFault(t, s+"device e", line, 1, api.ErrMany)
	askFault(t, s+"\n \tdevice e class x port p # e\ndevice f", line+1, 3, api.ErrMany)
	askFault(t, s+"device a\n5", line, 1, api.ErrMany)
	// Behind all others of its line, ahead of those of later ones.
	askFault(t, s+"device d0000", line, 8, api.ErrTwice)
	askFault(t, s+"device 5", line, 8, api.ErrName)
	askFault(t, s+"device", line, 7, api.ErrName)
	askFault(t, s+"device e f", line, 10, api.ErrLine)
	askFault(t, s+"device e class", line, 15, api.ErrName)
	askFault(t, s+"device e port p,5", line, 17, api.ErrName)
	many := "device e class " + strings.Join(names("c", api.MaxClasses), ",") + ","
	askFault(t, s+many+"x", line, len(many)+1, api.ErrMany)
	// Links may still come.
	x := topoOf(4, crowd(api.MaxDevices, 2), link(0, "p0000", 255, "p0001"))
	askParse(t, s+"link d0255 p0001->d0000 p0000", x)
	askFault(t, s+"link e", line, 6, api.ErrUnknown)
}

func TestTooManyLinks(t *testing.T) {
	x := topoOf(4, crowd(200, api.MaxPorts), mesh(api.MaxLinks, api.MaxPorts)...)
	s, e := topo.Print(x)
	same(t, "Print", e, api.OK)
	line := 1 + 200 + api.MaxLinks + 1
	askFault(t, s+"link d0199 p0000 -> d0198 p0000", line, 1, api.ErrMany)
	askFault(t, s+"\n  link d0199 p0000 -> d0199 p0001\n5", line+1, 3, api.ErrMany)
	askFault(t, s+"link d0199 p0000 -> d0000 p0000", line, 27, api.ErrTwice)
	askFault(t, s+"link d0000 p0000 -> d0199 p0000", line, 12, api.ErrTwice)
	askFault(t, s+"link d0199 p0000 -> d0199 p0000", line, 27, api.ErrTwice)
	askFault(t, s+"link d0199 p0000 -> e", line, 21, api.ErrUnknown)
	askFault(t, s+"link d0199 p0000 -> d0198 p0000 5", line, 33, api.ErrLine)
	askFault(t, s+"link d0199", line, 11, api.ErrName)
	// Devices may still come.
	x.Devices = append(x.Devices, dev("e", "", ""))
	askParse(t, s+"device e", x)
}

// The first line with a fault is told, whichever faults later ones have.
func TestTheFirstLineIsFirst(t *testing.T) {
	faults := []struct {
		line string
		col  int
		err  api.Errno
	}{
		{"width 4", 1, api.ErrLine}, {"device", 7, api.ErrName}, {"device a", 8, api.ErrTwice}, {"link z", 6, api.ErrUnknown}, {"link a p", 8, api.ErrTwice},
		{"device c class " + strings.Join(names("c", 17), ","), 16 + 16*6, api.ErrMany},
	}
	for _, f := range faults {
		for _, g := range faults {
			askLine(t, f.line+"\n"+g.line, f.col, f.err)
		}
	}
}

// P11.2

// Each change alone is one behind which a topology may not be.
func TestTopologiesThatMayNotBe(t *testing.T) {
	for what, change := range map[string]func(x *api.Topo){
		"width 0":                    func(x *api.Topo) { x.Width = 0 },
		"width 129":                  func(x *api.Topo) { x.Width = api.MaxBits + 1 },
		"width below 0":              func(x *api.Topo) { x.Width = -1 },
		"the least width":            func(x *api.Topo) { x.Width = math.MinInt },
		"the greatest width":         func(x *api.Topo) { x.Width = math.MaxInt },
		"a width that wraps":         func(x *api.Topo) { x.Width = 1<<32 + 4 },
		"no device":                  func(x *api.Topo) { x.Devices, x.Links = nil, nil },
		"no device, an empty list":   func(x *api.Topo) { x.Devices, x.Links = []api.Device{}, nil },
		"no device, but links":       func(x *api.Topo) { x.Devices = nil },
		"257 devices":                func(x *api.Topo) { x.Devices, x.Links = crowd(api.MaxDevices+1, 0), nil },
		"many devices":               func(x *api.Topo) { x.Devices, x.Links = crowd(9999, 0), nil },
		"devices that fall":          func(x *api.Topo) { x.Devices[0].Name, x.Devices[1].Name = "b", "a" },
		"the last one falls":         func(x *api.Topo) { x.Devices[2].Name = "B" },
		"devices alike":              func(x *api.Topo) { x.Devices[1].Name = "a" },
		"the last two alike":         func(x *api.Topo) { x.Devices[1].Name = "c" },
		"a device without a name":    func(x *api.Topo) { x.Devices[0].Name = "" },
		"17 classes":                 func(x *api.Topo) { x.Devices[1].Classes = names("c", api.MaxClasses+1) },
		"65 ports":                   func(x *api.Topo) { x.Devices[1].Ports = append(x.Devices[1].Ports, names("s", api.MaxPorts-2)...) },
		"classes that fall":          func(x *api.Topo) { x.Devices[2].Classes = []string{"edge", "core"} },
		"classes alike":              func(x *api.Topo) { x.Devices[2].Classes = []string{"core", "core"} },
		"a class without a name":     func(x *api.Topo) { x.Devices[2].Classes = []string{""} },
		"ports that fall":            func(x *api.Topo) { x.Devices[1].Ports = []string{"p", "r", "q"} },
		"ports alike":                func(x *api.Topo) { x.Devices[1].Ports = []string{"p", "q", "q"} },
		"a port without a name":      func(x *api.Topo) { x.Devices[1].Ports = []string{"", "p", "q"} },
		"A below 0":                  func(x *api.Topo) { x.Links[0].A = -1 },
		"A of no device":             func(x *api.Topo) { x.Links[3] = link(3, "x", 3, "y") },
		"B of no device":             func(x *api.Topo) { x.Links[0].B = 3 },
		"B below 0":                  func(x *api.Topo) { x.Links[0].B = -1 },
		"the least A":                func(x *api.Topo) { x.Links[0].A = math.MinInt },
		"the greatest B":             func(x *api.Topo) { x.Links[0].B = math.MaxInt },
		"PortA of none":              func(x *api.Topo) { x.Links[0].PortA = "o" },
		"PortA of another device":    func(x *api.Topo) { x.Links[1].PortA = "r" },
		"PortB of none":              func(x *api.Topo) { x.Links[0].PortB = "x" },
		"an empty PortA":             func(x *api.Topo) { x.Links[0].PortA = "" },
		"an empty PortB":             func(x *api.Topo) { x.Links[3].PortB = "" },
		"a link with itself":         func(x *api.Topo) { x.Links[3].PortB = "x" },
		"a link's ends turned round": func(x *api.Topo) { x.Links[2] = link(2, "q", 1, "p") },
		"one device's, turned round": func(x *api.Topo) { x.Links[3] = link(2, "y", 2, "x") },
		"links that fall by A":       func(x *api.Topo) { x.Links[1], x.Links[2] = x.Links[2], x.Links[1] },
		"links that fall by PortA":   func(x *api.Topo) { x.Links[0], x.Links[1] = x.Links[1], x.Links[0] },
		"the last one ahead":         func(x *api.Topo) { x.Links = append(x.Links[3:], x.Links[:3]...) },
		"a link twice":               func(x *api.Topo) { x.Links = slices.Insert(x.Links, 0, x.Links[0]) },
		"the last one twice":         func(x *api.Topo) { x.Links = append(x.Links, x.Links[3]) },
		"a PortA in two":             func(x *api.Topo) { x.Links[1].PortA = "p" },
		"a PortB in two":             func(x *api.Topo) { x.Links[2].PortB = "p" },
		"a PortA that is a PortB":    func(x *api.Topo) { x.Links[2].PortA = "q" },
		"a port of two of its own":   func(x *api.Topo) { x.Links[3].PortA = "q" },
		"4097 links":                 func(x *api.Topo) { *x = topoOf(4, crowd(200, 64), mesh(api.MaxLinks+1, 64)...) },
		"all zero":                   func(x *api.Topo) { *x = api.Topo{} },
	} {
		x := deep(triangle())
		change(&x)
		askCheck(t, what, x, api.ErrTopo)
	}
	x := deep(triangle())
	x.Devices[1].Classes, x.Devices[1].Ports = names("c", api.MaxClasses), append(x.Devices[1].Ports, names("s", api.MaxPorts-3)...)
	askCheck(t, "as many as may be", x, api.OK)
}

func TestNamesThatMayNotBe(t *testing.T) {
	for _, w := range append(noNames(), "", " ", "a b", "a\n", "n#", "\xff", "caf\u00e9", "a,b", "a->b", "\x00") {
		x := topoOf(4, []api.Device{{Name: w}})
		askCheck(t, "a device's name", x, api.ErrTopo)
		x = topoOf(4, []api.Device{{Name: "a", Classes: []string{w}}})
		askCheck(t, "a class", x, api.ErrTopo)
		x = topoOf(4, []api.Device{{Name: "a", Ports: []string{w}}})
		askCheck(t, "a port", x, api.ErrTopo)
		// Beside one that may be, in the order that they have.
		x = topoOf(4, devices(dev(min("p", w), "", "p"), dev(max("p", w), "", "p")), link(0, "p", 1, "p"))
		askCheck(t, "one of two devices' names", x, api.ErrTopo)
		x = topoOf(4, []api.Device{{Name: "a", Ports: sorted("p", w)}}, api.Link{PortA: min("p", w), PortB: max("p", w)})
		askCheck(t, "a linked port", x, api.ErrTopo)
		x = topoOf(4, []api.Device{{Name: "a", Classes: sorted("p", w)}})
		askCheck(t, "one of two classes", x, api.ErrTopo)
	}
}

func sorted(l ...string) []string {
	slices.Sort(l)
	return l
}

// P11.3, of what may not be

func TestCallsOfAnyTopology(t *testing.T) {
	askFind(t, api.Topo{}, "", 0, false)
	askNoPeer(t, api.Topo{}, 0, "")
	askNear(t, api.Topo{}, 0)
	askWho(t, api.Topo{}, 0, "", "", false)
	x := topoOf(-5, []api.Device{{Name: "b"}, {Name: "", Classes: []string{"%", "", "%"}}, {Name: "b", Classes: []string{"c"}}, {Name: ""}, {Name: "a b"}},
		link(7, "p", -3, "q"), link(7, "p", 1, "r"), link(1, "s", 1, "s"), link(-3, "q", 7, "t"), link(0, "", 0, "u"), link(7, "v", 4, "w"), link(7, "x", 7, "y"))
	askFind(t, x, "b", 0, true)
	askFind(t, x, "", 1, true)
	askFind(t, x, "a b", 4, true)
	askFind(t, x, "a", 0, false)
	askWho(t, x, 1, "", "%  %", true)
	askWho(t, x, 2, "b", "c", true)
	// Of the first link that has the port, also of devices that are not there.
	askPeer(t, x, 7, "p", -3, "q")
	askPeer(t, x, -3, "q", 7, "p")
	askPeer(t, x, 1, "r", 7, "p")
	askPeer(t, x, 1, "s", 1, "s")
	askPeer(t, x, 7, "t", -3, "q")
	askPeer(t, x, 0, "", 0, "u")
	askPeer(t, x, 0, "u", 0, "")
	askPeer(t, x, 7, "y", 7, "x")
	askNoPeer(t, x, 7, "w")
	askNoPeer(t, x, 4, "v")
	askNoPeer(t, x, -3, "p")
	askNear(t, x, 7, -3, 1, 4, 7)
	askNear(t, x, -3, 7)
	askNear(t, x, 1, 1, 7)
	askNear(t, x, 0, 0)
	askNear(t, x, 4, 7)
	askNear(t, x, 2)
}

func TestNumbersOfNoDevice(t *testing.T) {
	for _, n := range []int{-1, 3, 4, 255, 256, 1 << 32, math.MinInt, math.MaxInt} {
		askNoPeer(t, triangle(), n, "p")
		askNear(t, triangle(), n)
		askWho(t, triangle(), n, "", "", false)
	}
}

// Nothing is kept, and nothing that is handed in is changed, not even behind a list's end.

func TestNothingIsChanged(t *testing.T) {
	spare := func() api.Topo {
		x := deep(triangle())
		x.Devices = append(x.Devices, dev("spare", "", ""))[:3]
		x.Links = append(x.Links, link(9, "spare", 9, "spare"))[:4]
		for i := range x.Devices {
			d := &x.Devices[i]
			d.Classes = append(d.Classes, "spare")[:len(d.Classes)]
			d.Ports = append(d.Ports, "spare")[:len(d.Ports)]
		}
		return x
	}
	whole := func(x api.Topo) string {
		s := told(x)
		for _, d := range x.Devices {
			s += fmt.Sprint(d.Classes[:len(d.Classes)+1], d.Ports[:len(d.Ports)+1])
		}
		return s + fmt.Sprint(x.Devices[:4][3], x.Links[:5][4])
	}
	x := spare()
	for range 3 {
		askCheck(t, "spare", x, api.OK)
		askFind(t, x, "c", 2, true)
		askPeer(t, x, 2, "y", 2, "x")
		askNear(t, x, 2, 0, 1, 2)
		askWho(t, x, 2, "c", "core edge", true)
		askSame(t, "spare", x, triangle(), true)
		same(t, "what was handed in", whole(x), whole(spare()))
	}
}

// spoil writes over all lists of a topology, and behind their ends.
func spoil(x api.Topo) {
	for i := range x.Devices {
		d := &x.Devices[i]
		for _, l := range [][]string{d.Classes, d.Ports} {
			l = l[:cap(l)]
			for j := range l {
				l[j] = "spoilt"
			}
		}
	}
	for i := range x.Links {
		x.Links[i] = link(9, "spoilt", 9, "spoilt")
	}
	for i := range x.Devices {
		x.Devices[i] = dev("spoilt", "", "")
	}
}

func TestWhatIsToldIsOnesOwn(t *testing.T) {
	first, _, _, _ := topo.Parse(triangleText)
	second, _, _, _ := topo.Parse(triangleText)
	spoil(first)
	same(t, "the second", told(second), told(triangle()))
	askParse(t, triangleText, triangle())
	// No two lists of one answer lie in one another.
	for i := range second.Devices {
		for _, which := range []int{0, 1} {
			x, _, _, _ := topo.Parse(triangleText)
			l := [][]string{x.Devices[i].Classes, x.Devices[i].Ports}[which]
			l = l[:cap(l)]
			for j := range l {
				l[j] = "spoilt"
			}
			want := deep(triangle())
			own := [][]string{want.Devices[i].Classes, want.Devices[i].Ports}[which]
			for j := range own {
				own[j] = "spoilt"
			}
			same(t, "all but one list", told(x), told(want))
		}
	}
	x := deep(triangle())
	w, _ := topo.Who(x, 2)
	v, _ := topo.Who(x, 2)
	w.Classes[0] = "spoilt"
	_ = append(w.Classes[:1], "spoilt")
	same(t, "another answer", strings.Join(v.Classes, " "), "core edge")
	same(t, "what was handed in", told(x), told(triangle()))
	x.Devices[2].Classes[0] = "changed"
	same(t, "what was told", strings.Join(v.Classes, " "), "core edge")
	near := topo.Near(x, 2)
	near[0] = 77
	askNear(t, x, 2, 0, 1, 2)
}

// lies tells whether a text's first byte is one of another's, in memory.
func lies(part, whole string) bool {
	at, from := uintptr(unsafe.Pointer(unsafe.StringData(part))), uintptr(unsafe.Pointer(unsafe.StringData(whole)))
	return part != "" && from <= at && at < from+uintptr(len(whole))
}

// What is answered is no piece of a text that was handed in.
func TestNewMemory(t *testing.T) {
	given := strings.Clone("width 4\ndevice name class sort port port1,port2\nlink name port2->name port1\n")
	x, _, _, e := topo.Parse(given)
	same(t, "Parse", e, api.OK)
	d, l := x.Devices[0], x.Links[0]
	w, _ := topo.Who(x, 0)
	_, p, _ := topo.Peer(x, 0, "port1")
	_, q, _ := topo.Peer(x, 0, "port2")
	for _, s := range []string{d.Name, d.Classes[0], d.Ports[0], d.Ports[1], l.PortA, l.PortB} {
		same(t, "a piece of the text: "+s, lies(s, given), false)
		for _, told := range []string{w.Name, w.Classes[0], p, q} {
			same(t, "a piece of the topology: "+s, lies(told, s), false)
		}
	}
}

// A refused call leaves no trace in the next one.
func TestAfterError(t *testing.T) {
	askFault(t, triangleText+"device d\nlink a p", 10, 8, api.ErrTwice)
	askParse(t, triangleText, triangle())
	askParse(t, triangleText+"device d", topoOf(4, append(triangle().Devices, dev("d", "", "")), triangle().Links...))
	askFault(t, "width 0", 1, 7, api.ErrRange)
	askParse(t, triangleText, triangle())
}
