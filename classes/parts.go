package classes

import (
	"slices"
	"sort"

	"milestone/api"
	"milestone/bdd"
	"milestone/cube"
)

// sorter hands each header to the action of the first rule that it meets. It holds the headers that have met none yet, and behind them, of each action, in order, those that it has.
type sorter struct {
	*sheet
	actions []api.Action
}

// sortedOut is what is done with all headers by rules in their order. They are its own from now on.
func sortedOut(l []api.Rule, bits int) *sorter {
	s := &sorter{sheet: newSheet(bits, yes)}
	for _, r := range l {
		s.do(func() { s.meet(r) })
	}
	// What meets no rule is dropped, as if by one more behind all others.
	every, _ := cube.Every(bits)
	s.do(func() { s.meet(api.Rule{Match: every, Action: api.Action{Kind: api.Drop}}) })
	return s
}

// meet hands to a rule's action what is left of its Match.
func (s *sorter) meet(r api.Rule) {
	left := s.held[0]
	met := must(s.And(left, must(s.Cube(r.Match))))
	if met == no {
		return
	}
	left = must(s.Diff(left, met))
	at, there := s.find(r.Action)
	if there {
		met = must(s.Or(met, s.held[at+1]))
	} else {
		s.actions = slices.Insert(s.actions, at, r.Action)
		s.held = slices.Insert(s.held, at+1, no)
	}
	s.held[0], s.held[at+1] = left, met
}

// find is the place of an action, and whether it is there; else where it belongs.
func (s *sorter) find(a api.Action) (int, bool) {
	at := sort.Search(len(s.actions), func(i int) bool { return !Ahead(s.actions[i], a) })
	return at, at < len(s.actions) && compare(s.actions[at], a) == 0
}

// tell are the classes, told by a table that is asked for them alone.
func (s *sorter) tell(t *bdd.Table) []api.Class {
	l := make([]api.Class, len(s.actions))
	for i, a := range s.actions {
		l[i] = api.Class{Where: carry(s.Table, t, s.held[i+1]), Action: a}
	}
	return l
}

// parted tells whether no class is empty, no two meet, and all together have each header.
func parted(t *bdd.Table, l []api.Class) bool {
	s := newSheet(t.Bits(), no)
	for _, c := range l {
		apart := false
		s.do(func() {
			ahead, where := s.held[0], carry(t, s.Table, c.Where)
			apart = must(s.And(ahead, where)) == no
			s.held[0] = must(s.Or(ahead, where))
		})
		if c.Where == no || !apart {
			return false
		}
	}
	return s.held[0] == yes
}

// within are the parts of a partition's classes in a set.
func within(t *bdd.Table, l []api.Class, where api.Ref) []api.Class {
	var parts []api.Class
	for _, c := range l {
		if common := must(t.And(c.Where, where)); common != no {
			parts = append(parts, api.Class{Where: common, Action: copyOf(c.Action)})
		}
	}
	return parts
}

// shifts are what classes of two partitions with unlike actions have in common; the sheet is for finding those that meet.
func shifts(s *sheet, t *bdd.Table, a, b []api.Class) []api.Shift {
	var l []api.Shift
	n := newNumbered(s, t, b)
	for _, from := range a {
		for _, i := range n.meets(t, from.Where) {
			to := b[i]
			if compare(from.Action, to.Action) == 0 {
				continue
			}
			if common := must(t.And(from.Where, to.Where)); common != no {
				l = append(l, api.Shift{Where: common, From: copyOf(from.Action), To: copyOf(to.Action)})
			}
		}
	}
	return l
}
