package engine

import (
	"cmp"
	"iter"
	"slices"

	"milestone/api"
)

// part is an entry on a sheet.
type part struct {
	where  *set
	counts api.Counts
}

// all are the headers of parts together, put together half by half, so that many small ones are not each held against all others.
func (s *sheet) all(l []part, join func(a, b *set) *set) *set {
	switch len(l) {
	case 0:
		return &set{no}
	case 1:
		return l[0].where
	}
	mark, half := len(s.held), len(l)/2
	joined := join(s.all(l[:half], join), s.all(l[half:], join))
	s.letGo(mark, part{where: joined})
	return joined
}

// put puts parts together that do not meet: they rise by their counts, and alike ones are one.
func (s *sheet) put(l []part) []part {
	slices.SortFunc(l, func(a, b part) int { return cmp.Compare(a.counts, b.counts) })
	var together []part
	for len(l) > 0 {
		alike := 1
		for alike < len(l) && l[alike].counts == l[0].counts {
			alike++
		}
		together = append(together, part{s.all(l[:alike], s.or), l[0].counts})
		l = l[alike:]
	}
	return together
}

// product is what two rows of parts come to where they meet, by what their counts come to.
func (s *sheet) product(a, b []part, join func(a, b api.Counts) api.Counts) []part {
	var met []part
	for common, pair := range s.meetings(a, b) {
		met = append(met, part{common, join(pair[0].counts, pair[1].counts)})
	}
	return s.put(met)
}

// meetings goes over what a part of one row has in common with one of another row. In neither row two meet.
func (s *sheet) meetings(a, b []part) iter.Seq2[*set, [2]part] {
	return func(yield func(*set, [2]part) bool) {
		for _, x := range a {
			for _, y := range b {
				common := s.and(x.where, y.where)
				if common.ref != no && !yield(common, [2]part{x, y}) {
					return
				}
				// What lies inside of one meets no other one.
				if common.ref == x.where.ref {
					break
				}
			}
		}
	}
}
