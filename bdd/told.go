package bdd

import "milestone/api"

// told is which refs stand for which nodes. Refs are numbered in the order of telling, and none comes twice, so that one of ahead of a Keep is no other's behind it.
type told struct {
	first api.Ref         // the ref of the first of roots
	roots []int           // the nodes that are told, by refs
	refs  map[int]api.Ref // the refs, by nodes
}

// find are the nodes of refs, if all are told.
func (s *told) find(l []api.Ref) ([]int, bool) {
	n := make([]int, len(l))
	for i, r := range l {
		switch {
		case r == no || r == yes:
			n[i] = int(r)
		case r >= s.first && r-s.first < api.Ref(len(s.roots)):
			n[i] = s.roots[r-s.first]
		default:
			return nil, false
		}
	}
	return n, true
}

// tell is the ref of a node: the one that it has, or a new one.
func (s *told) tell(n int) api.Ref {
	if n < firstNode {
		return api.Ref(n)
	}
	if r, ok := s.refs[n]; ok {
		return r
	}
	r := s.first + api.Ref(len(s.roots))
	s.roots = append(s.roots, n)
	s.refs[n] = r
	return r
}

// forget: none is told any more.
func (s *told) forget() {
	s.first += api.Ref(len(s.roots))
	s.roots = nil
	s.refs = map[int]api.Ref{}
}
