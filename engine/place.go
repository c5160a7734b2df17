package engine

import (
	"slices"

	"milestone/api"
	"milestone/counts"
)

// place is one of a plan, with what its Kids come to, by their devices.
type place struct {
	*counting
	accept bool
	kids   map[int][]part
}

// deed is what a device does with the packets of a class; of each port to which it sends them the device at the other end, or nobody.
type deed struct {
	where *set
	kind  api.ActionKind
	peers []int
}

// deeds are those of a device's classes that have some of the packets.
func (c *counting) deeds(row []api.Class, peers map[string]int) []deed {
	var l []deed
	for _, x := range row {
		mark := len(c.held)
		where := c.and(c.packets, c.take(x.Where))
		c.letGo(mark, part{where: where})
		if where.ref == no {
			continue
		}
		d := deed{where: where, kind: x.Action.Kind}
		for _, port := range x.Action.Ports {
			peer, linked := peers[port]
			if !linked {
				peer = nobody
			}
			d.peers = append(d.peers, peer)
		}
		l = append(l, d)
	}
	return l
}

// result is what a place's device makes of all its packets, its deeds being put together half by half.
func (p *place) result(l []deed) []part {
	switch len(l) {
	case 0:
		return nil
	case 1:
		return p.deed(l[0])
	}
	mark, half := len(p.held), len(l)/2
	together := p.put(slices.Concat(p.result(l[:half]), p.result(l[half:])))
	p.letGo(mark, together...)
	return together
}

func (p *place) deed(d deed) []part {
	switch {
	case d.kind == api.Deliver && p.accept:
		return []part{{d.where, p.alone(1)}}
	case d.kind == api.All:
		return p.sent(d, counts.Sum)
	case d.kind == api.Any:
		return p.sent(d, counts.Union)
	}
	return []part{{d.where, p.alone(0)}}
}

// sent is what becomes of packets that go out, port by port.
func (p *place) sent(d deed, join func(bound int, l ...api.Counts) (api.Counts, api.Errno)) []part {
	mark := len(p.held)
	l := []part{{where: d.where}}
	for i, peer := range p.ports(d) {
		l = p.product(l, p.port(peer), func(ahead, port api.Counts) api.Counts {
			// Ahead of the first port nothing is counted yet.
			if i == 0 {
				return port
			}
			return sure(join(p.bound, ahead, port))
		})
		p.letGo(mark, l...)
	}
	return l
}

// ports are the devices whose counts those of a deed's ports are, nobody where there is no such Kid. They are no more than matter: one more 0 changes no sum, and what is there already no union.
func (p *place) ports(d deed) []int {
	l := slices.Clone(d.peers)
	for i, peer := range l {
		if _, is := p.kids[peer]; !is {
			l[i] = nobody
		}
	}
	slices.Sort(l)
	return slices.CompactFunc(l, func(a, b int) bool { return a == b && (a == nobody || d.kind == api.Any) })
}

// port is what becomes of all packets that come to a device.
func (p *place) port(peer int) []part {
	if peer == nobody {
		return p.none()
	}
	return p.kids[peer]
}
