package regex

import (
	"slices"

	"milestone/api"
)

// spot is a node of an expression, while a path is followed device by device through all of it at once.
type spot struct {
	op    api.RegexOp
	name  string
	kids  []spot
	empty bool // the empty path is one of it
	ends  bool // a path of it ends with the device that was taken last
}

// spotOf is the spot of an expression that may be, ahead of all devices.
func spotOf(r api.Regex) spot {
	s := spot{op: r.Op, name: r.Name}
	for _, k := range r.Kids {
		s.kids = append(s.kids, spotOf(k))
	}
	s.empty = s.takesNone()
	return s
}

// takesNone tells whether the empty path is one of it.
func (s *spot) takesNone() bool {
	switch s.op {
	case api.RStar:
		fallthrough
	case api.ROpt:
		return true
	case api.RSeq:
		return !slices.ContainsFunc(s.kids, func(k spot) bool { return !k.empty })
	}
	// One Kid is enough of alternatives, and of RPlus; of what has no Kids a device is wanted.
	return slices.ContainsFunc(s.kids, func(k spot) bool { return k.empty })
}

// take takes the next device; first tells whether a path of this node may begin with it.
func (s *spot) take(w api.Who, first bool) {
	switch s.op {
	case api.RSeq:
		s.takeInRow(w, first)
	case api.RStar:
		fallthrough
	case api.RPlus:
		first = first || s.ends
		fallthrough
	case api.ROpt:
		fallthrough
	case api.RAlt:
		s.takeInEach(w, first)
	default:
		s.ends = first && s.fits(w)
	}
}

// takeInEach takes a device where a path of each Kid is one of the node.
func (s *spot) takeInEach(w api.Who, first bool) {
	s.ends = false
	for i := range s.kids {
		k := &s.kids[i]
		k.take(w, first)
		s.ends = s.ends || k.ends
	}
}

// takeInRow takes a device where the Kids stand one behind the other.
func (s *spot) takeInRow(w api.Who, first bool) {
	s.ends = false
	for i := range s.kids {
		k := &s.kids[i]
		// Asked ahead of the device: behind this Kid's path the next one's may begin with it.
		next := k.ends || first && k.empty
		k.take(w, first)
		s.ends = k.ends || s.ends && k.empty
		first = next
	}
}

// fits tells whether a device is a path of a node without Kids.
func (s *spot) fits(w api.Who) bool {
	switch s.op {
	case api.RDevice:
		return w.Name == s.name
	case api.RClass:
		return slices.Contains(w.Classes, s.name)
	}
	return true
}
