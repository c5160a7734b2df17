package regex

import (
	"testing"

	"milestone/api"
)

var a, b, c = api.Regex{Op: api.RDevice, Name: "a"}, api.Regex{Op: api.RDevice, Name: "b"}, api.Regex{Op: api.RDevice, Name: "c"}

func of(op api.RegexOp, kids ...api.Regex) api.Regex { return api.Regex{Op: op, Kids: kids} }

// inItself is an expression of a kind whose Kids are all itself.
func inItself(op api.RegexOp, kids int) api.Regex {
	r := api.Regex{Op: op, Kids: make([]api.Regex, kids)}
	for i := range r.Kids {
		r.Kids[i] = r
	}
	return r
}

// shared is one whose two Kids have one list of Kids, and so on, so often: a few nodes that stand for very many.
func shared(levels int, r api.Regex) api.Regex {
	for i := range levels {
		r = of(api.RSeq+api.RegexOp(i%2), r, r)
	}
	return r
}

func askAlike(t *testing.T, x, y api.Regex, want bool) {
	t.Helper()
	if alike(x, y) != want || alike(y, x) != want || !alike(x, x) || !alike(y, y) {
		t.Errorf("two are alike, or not: want %v", want)
	}
}

// Lists that lie in themselves.
func TestAlikeWithoutEnd(t *testing.T) {
	askAlike(t, inItself(api.RStar, 1), inItself(api.RStar, 1), true)
	askAlike(t, inItself(api.RStar, 1), of(api.RStar, inItself(api.RStar, 1)), true)
	askAlike(t, inItself(api.RStar, 1), of(api.RPlus, inItself(api.RStar, 1)), false)
	askAlike(t, inItself(api.RStar, 1), inItself(api.RPlus, 1), false)
	askAlike(t, inItself(api.RStar, 1), of(api.RStar, of(api.RStar, a)), false)
	askAlike(t, inItself(api.RSeq, 2), inItself(api.RSeq, 2), true)
	askAlike(t, inItself(api.RSeq, 2), inItself(api.RSeq, 3), false)
	askAlike(t, inItself(api.RSeq, 2), of(api.RSeq, inItself(api.RSeq, 2), inItself(api.RSeq, 2)), true)
}

// Lists that many nodes share.
func TestAlikeOfShared(t *testing.T) {
	askAlike(t, shared(60, a), shared(60, a), true)
	askAlike(t, shared(60, a), shared(60, b), false)
	askAlike(t, shared(60, a), shared(62, a), false)
	askAlike(t, shared(60, a), shared(61, a), false)
	inner := of(api.RSeq, a, b)
	askAlike(t, of(api.RAlt, inner, inner), of(api.RAlt, of(api.RSeq, a, b), of(api.RSeq, a, b)), true)
	askAlike(t, of(api.RAlt, inner, inner), of(api.RAlt, of(api.RSeq, a, b), of(api.RSeq, a, c)), false)
}

// Two beginnings of one list are not the same.
func TestAlikeOfBeginnings(t *testing.T) {
	one, two := []api.Regex{a, b, c}, []api.Regex{a, b, a}
	x := of(api.RSeq, of(api.RAlt, one[:2]...), of(api.RAlt, one...))
	askAlike(t, x, of(api.RSeq, of(api.RAlt, two[:2]...), of(api.RAlt, two...)), false)
	askAlike(t, x, of(api.RSeq, of(api.RAlt, one...), of(api.RAlt, one[:2]...)), false)
	askAlike(t, x, of(api.RSeq, of(api.RAlt, two[:2]...), of(api.RAlt, a, b, c)), true)
}
