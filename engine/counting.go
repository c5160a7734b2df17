package engine

import (
	"milestone/api"
	"milestone/bdd"
	"milestone/counts"
)

// counting works out results of some headers.
type counting struct {
	*sheet
	table   *bdd.Table // of the call
	packets *set
	bound   int
}

// newCounting begins with what a call is given, if that is told.
func newCounting(t *bdd.Table, packets api.Ref, bound int, results ...[]api.Entry) *counting {
	usable(t)
	bounded(bound)
	told(t, packets)
	for _, l := range results {
		entriesTold(t, l)
	}
	c := &counting{sheet: newSheet(t.Bits()), table: t, bound: bound}
	c.packets = c.take(packets)
	return c
}

// take holds a set of the call's table.
func (c *counting) take(r api.Ref) *set {
	return c.hold(func() api.Ref { return carry(c.table, c.Table, r) })
}

// sure is what package counts tells of arguments that may be.
func sure(c api.Counts, e api.Errno) api.Counts {
	refuse(e)
	return c
}

// alone is the set of one number.
func (c *counting) alone(n int) api.Counts { return sure(counts.Of(c.bound, n)) }

// none is what becomes of all packets where no copy comes.
func (c *counting) none() []part { return []part{{c.packets, c.alone(0)}} }

// read is a result that a call is given.
func (c *counting) read(l []api.Entry) []part {
	var parts []part
	for i, x := range l {
		rises := i == 0 || l[i-1].Counts < x.Counts
		must(rises && x.Where != no && counts.Check(c.bound, x.Counts) == api.OK, api.ErrEntries)
		parts = append(parts, part{c.take(x.Where), x.Counts})
	}
	must(c.all(parts, c.apart).ref == c.packets.ref, api.ErrEntries)
	return parts
}

// tell are results in the call's table, to which each set is carried just once.
func (c *counting) tell(results ...[]part) [][]api.Entry {
	out := make([][]api.Entry, len(results))
	refs := map[api.Ref]api.Ref{}
	for i, l := range results {
		for _, p := range l {
			ref, known := refs[p.where.ref]
			if !known {
				ref = carry(c.Table, c.table, p.where.ref)
				refs[p.where.ref] = ref
			}
			out[i] = append(out[i], api.Entry{Where: ref, Counts: p.counts})
		}
	}
	return out
}
