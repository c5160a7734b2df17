package regex

import "milestone/api"

// pair is two lists of as many nodes that are held against each other.
type pair struct {
	a []api.Regex
	b []api.Regex
}

// key is where a pair's lists lie, which are not empty.
type key struct {
	a      *api.Regex
	b      *api.Regex
	length int
}

// pairs are those that are still to be gone through, and how often each has come.
type pairs struct {
	left []pair
	come map[key]int
}

// add takes down a pair that comes for the first time. Gone through again it would tell nothing new; and of lists that lie in one another, or in many others, there would be no end.
func (l *pairs) add(p pair) {
	if len(p.a) == 0 {
		return
	}
	k := key{&p.a[0], &p.b[0], len(p.a)}
	l.come[k]++
	if l.come[k] == 1 {
		l.left = append(l.left, p)
	}
}

// next is one that is still to be gone through.
func (l *pairs) next() pair {
	last := len(l.left) - 1
	p := l.left[last]
	l.left = l.left[:last]
	return p
}

// alike tells whether two expressions are, node by node.
func alike(a, b api.Regex) bool {
	l := pairs{come: map[key]int{}}
	l.add(pair{[]api.Regex{a}, []api.Regex{b}})
	for len(l.left) > 0 {
		p := l.next()
		for i, x := range p.a {
			y := p.b[i]
			if x.Op != y.Op || x.Name != y.Name || len(x.Kids) != len(y.Kids) {
				return false
			}
			l.add(pair{x.Kids, y.Kids})
		}
	}
	return true
}
