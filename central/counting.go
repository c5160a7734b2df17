package central

import (
	"strings"

	"milestone/api"
	"milestone/counts"
	"milestone/plan"
)

// counting asks how many copies are possible, from places of a plan on.
type counting struct {
	asked
	api.Plan
	bound int
	sets  []api.Counts // of each place
}

// all are the counts of all places, from the last one on, since the Kids of a place are behind it.
func (c *counting) all() []api.Counts {
	// topo.Check's error is the first of plan.Check's.
	c.refuse(plan.Check(c.Topo, c.Plan))
	c.look()
	c.refuse(counts.Check(c.bound))
	c.sets = make([]api.Counts, len(c.Nodes))
	for n := len(c.Nodes) - 1; n >= 0; n-- {
		c.sets[n] = c.place(c.Nodes[n])
	}
	return c.sets
}

// of are the counts of a place.
func (c *counting) of(n int) api.Counts {
	sets := c.all()
	c.must(0 <= n && n < len(sets), api.ErrRange)
	return sets[n]
}

func (c *counting) verdict(i, compare int) api.Verdict {
	sets := c.all()
	c.must(0 <= i && i < len(c.Roots), api.ErrRange)
	set := c.none()
	if root := c.Roots[i]; root >= 0 {
		set = sets[root]
	}
	n, breaks, e := counts.Breaks(c.bound, compare, set)
	c.refuse(e)
	if !breaks {
		return api.Verdict{Right: true}
	}
	return api.Verdict{Header: strings.Clone(c.header), Count: n}
}

// place is what a place comes to, its Kids being counted.
func (c *counting) place(n api.PlanNode) api.Counts {
	does := c.deeds[n.Device]
	switch {
	case does.kind == api.Deliver && n.Accept:
		return c.set(counts.Of(c.bound, 1))
	case does.kind == api.All:
		return c.set(counts.Sum(c.bound, c.ports(n.Kids, does.peers)...))
	case does.kind == api.Any:
		return c.set(counts.Union(c.bound, c.ports(n.Kids, does.peers)...))
	}
	return c.none()
}

// ports are the counts of ports, one for each, by the devices at their other ends.
func (c *counting) ports(kids, peers []int) []api.Counts {
	l := make([]api.Counts, len(peers))
	for i, peer := range peers {
		l[i] = c.kid(kids, peer)
	}
	return l
}

// kid are the counts of the Kid at a device. (plan.Kid looks through the whole plan ahead of each answer, which would be slow for all ports of all places.)
func (c *counting) kid(kids []int, device int) api.Counts {
	for _, k := range kids {
		if c.Nodes[k].Device == device {
			return c.sets[k]
		}
	}
	return c.none()
}

// none is 0 alone.
func (c *counting) none() api.Counts { return c.set(counts.Of(c.bound, 0)) }

func (c *counting) set(s api.Counts, e api.Errno) api.Counts {
	c.refuse(e)
	return s
}
