package regex

import (
	"iter"
	"slices"
	"strings"

	"milestone/api"
	"milestone/words"
)

// The limits of Size.
const (
	mostNodes = 100000
	mostDeep  = 1000
)

// tally is how many nodes have been met, and how deep the deepest of them lies.
type tally struct {
	nodes int
	deep  int
}

// add counts the nodes of an expression that lies so deep, and tells whether they are within the limits. It gives up at the first one beyond them, since lists of Kids that lie in one another have no end.
func (t *tally) add(r api.Regex, deep int) bool {
	t.nodes++
	t.deep = max(t.deep, deep)
	if t.nodes > mostNodes || t.deep > mostDeep {
		return false
	}
	for _, k := range r.Kids {
		if !t.add(k, deep+1) {
			return false
		}
	}
	return true
}

// nodes are all those of an expression that is not too great, each ahead of its Kids.
func nodes(r api.Regex) iter.Seq[api.Regex] {
	return func(yield func(api.Regex) bool) { walk(r, yield) }
}

// walk hands on all nodes, till no more are asked for, and tells whether more are.
func walk(r api.Regex, yield func(api.Regex) bool) bool {
	if !yield(r) {
		return false
	}
	for _, k := range r.Kids {
		if !walk(k, yield) {
			return false
		}
	}
	return true
}

// mayBe tells whether all nodes may be.
func mayBe(r api.Regex) bool {
	for n := range nodes(r) {
		if !nodeMayBe(n) {
			return false
		}
	}
	return true
}

func nodeMayBe(n api.Regex) bool {
	switch n.Op {
	case api.RDevice:
		fallthrough
	case api.RClass:
		return words.Name(n.Name) && len(n.Kids) == 0
	case api.RAny:
		return n.Name == "" && len(n.Kids) == 0
	case api.RSeq:
		return n.Name == "" && len(n.Kids) != 1 && !hasKid(n, api.RSeq)
	case api.RAlt:
		return n.Name == "" && len(n.Kids) >= 2 && !hasKid(n, api.RAlt)
	case api.RStar:
		fallthrough
	case api.RPlus:
		fallthrough
	case api.ROpt:
		return n.Name == "" && len(n.Kids) == 1
	}
	return false
}

// hasKid tells whether one of a node's Kids is of a kind.
func hasKid(n api.Regex, op api.RegexOp) bool {
	return slices.ContainsFunc(n.Kids, func(k api.Regex) bool { return k.Op == op })
}

// names are those of all nodes of a kind, rising, each once.
func names(r api.Regex, op api.RegexOp) []string {
	var l []string
	for n := range nodes(r) {
		if n.Op == op {
			l = append(l, strings.Clone(n.Name))
		}
	}
	slices.Sort(l)
	return slices.Compact(l)
}
