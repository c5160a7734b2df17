package dfa

import (
	"milestone/api"
	"milestone/regex"
)

// kind is what a place asks of a device. Places of one kind fit the same ones.
type kind struct {
	op   api.RegexOp
	name string
}

// chart is how the places of an expression, which are numbered from 1 on, lie to one another. Place 0 is none of its nodes: it is the end of the empty path.
type chart struct {
	bytes  int          // of each set
	kinds  map[kind]int // from 1 on
	fits   []set        // the places of each kind; those of 0 are none
	behind []set        // of each place those for which the next device may stand
	ends   set          // the last ones of the expression's paths
}

// stretch is what is to be known of the paths of a part of an expression.
type stretch struct {
	empty bool // the empty path is one of them
	first set  // the places with which the others begin
	last  set  // those with which they end
}

// chartOf is the chart of an expression that may be.
func chartOf(r api.Regex) *chart {
	nodes, _ := regex.Size(r)
	c := &chart{bytes: nodes/8 + 1, kinds: map[kind]int{}}
	c.fits = []set{c.none()}
	c.behind = []set{c.none()}
	whole := c.add(r)
	c.behind[0] = whole.first
	c.ends = whole.last
	if whole.empty {
		c.ends.put(0)
	}
	return c
}

func (c *chart) none() set { return make(set, c.bytes) }

func (c *chart) only(place int) set {
	s := c.none()
	s.put(place)
	return s
}

// add takes down the places of a part.
func (c *chart) add(r api.Regex) stretch {
	switch r.Op {
	case api.RDevice:
		fallthrough
	case api.RClass:
		fallthrough
	case api.RAny:
		return c.addPlace(kind{r.Op, r.Name})
	case api.RSeq:
		return c.addRow(r.Kids)
	case api.RAlt:
		return c.addEither(r.Kids)
	}
	return c.addRepeated(r.Op, r.Kids[0])
}

func (c *chart) addPlace(k kind) stretch {
	place := len(c.behind)
	c.behind = append(c.behind, c.none())
	if c.kinds[k] == 0 {
		c.kinds[k] = len(c.fits)
		c.fits = append(c.fits, c.none())
	}
	c.fits[c.kinds[k]].put(place)
	return stretch{first: c.only(place), last: c.only(place)}
}

func (c *chart) addRow(kids []api.Regex) stretch {
	whole := stretch{empty: true, first: c.none(), last: c.none()}
	for _, k := range kids {
		next := c.add(k)
		c.follow(whole.last, next.first)
		if whole.empty {
			whole.first.join(next.first)
		}
		if next.empty {
			next.last.join(whole.last)
		}
		whole.last = next.last
		whole.empty = whole.empty && next.empty
	}
	return whole
}

func (c *chart) addEither(kids []api.Regex) stretch {
	whole := stretch{first: c.none(), last: c.none()}
	for _, k := range kids {
		next := c.add(k)
		whole.first.join(next.first)
		whole.last.join(next.last)
		whole.empty = whole.empty || next.empty
	}
	return whole
}

func (c *chart) addRepeated(op api.RegexOp, kid api.Regex) stretch {
	whole := c.add(kid)
	switch op {
	case api.RPlus:
		c.follow(whole.last, whole.first)
	case api.RStar:
		c.follow(whole.last, whole.first)
		fallthrough
	case api.ROpt:
		whole.empty = true
	}
	return whole
}

// follow lets each of some places stand right behind each of others.
func (c *chart) follow(ahead, behind set) {
	for place := range ahead.places() {
		c.behind[place].join(behind)
	}
}

// fitting is the places that fit a device.
func (c *chart) fitting(w api.Who) set {
	s := c.none()
	s.join(c.fits[c.kinds[kind{op: api.RAny}]])
	s.join(c.fits[c.kinds[kind{api.RDevice, w.Name}]])
	for _, class := range w.Classes {
		s.join(c.fits[c.kinds[kind{api.RClass, class}]])
	}
	return s
}

// next is the places for which a device may stand behind a path with these ends.
func (c *chart) next(ends set) set {
	s := c.none()
	for place := range ends.places() {
		s.join(c.behind[place])
	}
	return s
}
