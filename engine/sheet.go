package engine

import (
	"milestone/api"
	"milestone/bdd"
)

// no and yes are the sets of no header and of all, in every table.
const (
	no  api.Ref = 0
	yes api.Ref = 1
)

// set is headers on a sheet; a sweep gives it another ref.
type set struct{ ref api.Ref }

// sheet is a table of its own, for what only comes up on the way: a call's table, from which nothing may be let go, is told its answers alone.
type sheet struct {
	*bdd.Table
	held []*set // what a sweep leaves
}

func newSheet(bits int) *sheet {
	// No error: the bits are those of a table that was made.
	t, _ := bdd.New(bits, api.MaxNodes)
	return &sheet{Table: t}
}

// hold works out a set of others that are held. On a full sheet it is tried once more behind a sweep.
func (s *sheet) hold(work func() api.Ref) *set {
	r, e := answer(work)
	if e == api.ErrFull {
		s.sweep()
		r, e = answer(work)
	}
	refuse(e)
	x := &set{r}
	// No sweep changes the refs of no and yes.
	if r != no && r != yes {
		s.held = append(s.held, x)
	}
	return x
}

// sweep lets go of all that is not held.
func (s *sheet) sweep() {
	l := make([]api.Ref, len(s.held))
	for i, x := range s.held {
		l[i] = x.ref
	}
	l, e := s.Keep(l...)
	refuse(e)
	for i, x := range s.held {
		x.ref = l[i]
	}
}

// letGo holds nothing more of what was held since there were so many, but for some parts.
func (s *sheet) letGo(mark int, but ...part) {
	clear(s.held[mark:])
	s.held = s.held[:mark]
	for _, p := range but {
		s.held = append(s.held, p.where)
	}
}

func (s *sheet) and(a, b *set) *set {
	return s.hold(func() api.Ref { return ref(s.And(a.ref, b.ref)) })
}

func (s *sheet) or(a, b *set) *set {
	return s.hold(func() api.Ref { return ref(s.Or(a.ref, b.ref)) })
}

// apart is what either of two sets has, which must not meet.
func (s *sheet) apart(a, b *set) *set {
	must(s.and(a, b).ref == no, api.ErrEntries)
	return s.or(a, b)
}

// ref is what a table tells, if it does.
func ref(r api.Ref, e api.Errno) api.Ref {
	refuse(e)
	return r
}

// carry is one table's set in another one of as many bits.
func carry(from, to *bdd.Table, r api.Ref) api.Ref {
	// The list of yes is empty, as that of no.
	if r == no || r == yes {
		return r
	}
	l, e := from.List(r)
	refuse(e)
	made, _, e := to.Make(l)
	return ref(made, e)
}
