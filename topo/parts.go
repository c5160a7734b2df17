package topo

import (
	"cmp"
	"slices"

	"milestone/api"
	"milestone/words"
)

func isWidth(n int) bool { return 1 <= n && n <= api.MaxBits }

// end is a port of a device, at which a link may end.
type end struct {
	device int
	port   string
}

func endsOf(l api.Link) (a, b end) { return end{l.A, l.PortA}, end{l.B, l.PortB} }

// compare is below 0, if the first end stands ahead of the other one in a link, and in a list of links.
func compare(a, b end) int {
	return cmp.Or(cmp.Compare(a.device, b.device), cmp.Compare(a.port, b.port))
}

// joined is the link of two ends, the lesser one ahead.
func joined(a, b end) api.Link {
	if compare(b, a) < 0 {
		a, b = b, a
	}
	return api.Link{A: a.device, PortA: a.port, B: b.device, PortB: b.port}
}

// compareLinks is compare of the lesser ends: of links that may be no two have that alike.
func compareLinks(a, b api.Link) int {
	return compare(end{a.A, a.PortA}, end{b.A, b.PortA})
}

// ends are at how many ends of links each has come.
type ends map[end]int

// add takes down an end, and tells whether it has come for the first time.
func (l ends) add(x end) bool {
	l[x]++
	return l[x] == 1
}

func mayBe(t api.Topo) bool {
	// How many there are is asked ahead of all else, so that what is too great is refused at once.
	if !isWidth(t.Width) || len(t.Devices) < 1 || len(t.Devices) > api.MaxDevices || len(t.Links) > api.MaxLinks {
		return false
	}
	for i, d := range t.Devices {
		if !deviceMayBe(d) || i > 0 && t.Devices[i-1].Name >= d.Name {
			return false
		}
	}
	taken := ends{}
	for i, l := range t.Links {
		if i > 0 && compareLinks(t.Links[i-1], l) >= 0 {
			return false
		}
		a, b := endsOf(l)
		if !hasPort(t.Devices, a) || !hasPort(t.Devices, b) || compare(a, b) >= 0 || !taken.add(a) || !taken.add(b) {
			return false
		}
	}
	return true
}

func deviceMayBe(d api.Device) bool {
	return words.Name(d.Name) && namesMayBe(d.Classes, api.MaxClasses) && namesMayBe(d.Ports, api.MaxPorts)
}

// namesMayBe tells whether there are at most so many, all of them names, rising.
func namesMayBe(l []string, most int) bool {
	if len(l) > most {
		return false
	}
	for i, name := range l {
		if !words.Name(name) || i > 0 && l[i-1] >= name {
			return false
		}
	}
	return true
}

// hasPort tells whether an end is one of the devices' ports.
func hasPort(l []api.Device, x end) bool {
	return 0 <= x.device && x.device < len(l) && slices.Contains(l[x.device].Ports, x.port)
}
