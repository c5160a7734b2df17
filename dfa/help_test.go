package dfa_test

import (
	"fmt"
	"math/rand"
	"slices"
	"strconv"
	"strings"
	"testing"

	"milestone/api"
	"milestone/dfa"
	"milestone/regex"
)

func same(t *testing.T, what string, got, want any) {
	t.Helper()
	if got != want {
		t.Errorf("%s = %v, want %v", what, got, want)
	}
}

func device(name string) api.Regex { return api.Regex{Op: api.RDevice, Name: name} }

func class(name string) api.Regex { return api.Regex{Op: api.RClass, Name: name} }

func anyOne() api.Regex { return api.Regex{Op: api.RAny} }

func of(op api.RegexOp, kids ...api.Regex) api.Regex { return api.Regex{Op: op, Kids: kids} }

func who(name string, classes ...string) api.Who { return api.Who{Name: name, Classes: classes} }

// whos are devices told with blanks between, each with its classes behind a colon and commas between.
func whos(s string) []api.Who {
	var l []api.Who
	for _, w := range strings.Fields(s) {
		name, classes, has := strings.Cut(w, ":")
		d := who(name)
		if has {
			d.Classes = strings.Split(classes, ",")
		}
		l = append(l, d)
	}
	return l
}

// manyDevices are so many, with names of their own.
func manyDevices(n int) []api.Who {
	var l []api.Who
	for i := range n {
		l = append(l, who("d"+strconv.Itoa(i)))
	}
	return l
}

// parsed is the expression of a text that is one.
func parsed(t *testing.T, s string) api.Regex {
	t.Helper()
	r, line, col, e := regex.Parse(s)
	if e != api.OK {
		t.Fatalf("Parse(%.80q): %v at %d, %d", s, e, line, col)
	}
	return r
}

// told is all that stands in an automaton, as a text that can be compared.
func told(d api.Dfa) string { return fmt.Sprint(d.Next, d.Accept) }

// isZero tells whether an automaton has neither rows nor Accepts.
func isZero(d api.Dfa) bool { return len(d.Next) == 0 && len(d.Accept) == 0 }

// automaton is that of a text, of which each line is a state's: `*` or `-`, and its Next, `-` for none.
func automaton(t *testing.T, s string) api.Dfa {
	t.Helper()
	var d api.Dfa
	for i, line := range strings.Split(strings.TrimSuffix(s, "\n"), "\n") {
		l := strings.Fields(line)
		if len(l) == 0 {
			continue
		}
		same(t, "the number of a line", l[0], strconv.Itoa(i))
		var row []int
		for _, w := range l[2:] {
			n := -1
			if w != "-" {
				n, _ = strconv.Atoi(w)
			}
			row = append(row, n)
		}
		d.Next, d.Accept = append(d.Next, row), append(d.Accept, l[1] == "*")
	}
	return d
}

// build is the automaton of an expression that has one.
func build(t *testing.T, r api.Regex, l ...api.Who) api.Dfa {
	t.Helper()
	d, e := dfa.Build(r, l...)
	if e != api.OK {
		text, _ := regex.Print(r)
		t.Fatalf("Build(%.80s, %v): %v", text, l, e)
	}
	return d
}

// textOf is the text of an automaton that may be.
func textOf(t *testing.T, d api.Dfa, n int) string {
	t.Helper()
	s, e := dfa.Text(d, n)
	if e != api.OK {
		t.Fatalf("Text(%s, %d): %v", told(d), n, e)
	}
	return s
}

// askBuild asks for the automaton of an expression over devices, as a text.
func askBuild(t *testing.T, s, devices, want string) {
	t.Helper()
	l := whos(devices)
	if got := textOf(t, build(t, parsed(t, s), l...), len(l)); got != want {
		t.Errorf("Build(%s, %s) = %q, want %q", s, devices, got, want)
	}
}

// askNoBuild asks for an error, and that there is nothing beside it.
func askNoBuild(t *testing.T, what string, r api.Regex, l []api.Who, want api.Errno) {
	t.Helper()
	if d, e := dfa.Build(r, l...); e != want || !isZero(d) {
		t.Errorf("Build of %s = %.80s, %v, want %v", what, told(d), e, want)
	}
}

// askCheck asks Check, and all calls that answer its error, and that there is nothing beside it.
func askCheck(t *testing.T, d api.Dfa, n int, want api.Errno) {
	t.Helper()
	if e := dfa.Check(d, n); e != want {
		t.Errorf("Check(%s, %d) = %v, want %v", told(d), n, e, want)
	}
	if l, e := dfa.Least(d, n); e != want || want != api.OK && !isZero(l) {
		t.Errorf("Least(%s, %d) = %s, %v, want %v", told(d), n, told(l), e, want)
	}
	if s, e := dfa.Text(d, n); e != want || want != api.OK && s != "" {
		t.Errorf("Text(%s, %d) = %q, %v, want %v", told(d), n, s, e, want)
	}
}

// askRun asks to which state a path leads, and whether it is taken.
func askRun(t *testing.T, d api.Dfa, state int, taken bool, path ...int) {
	t.Helper()
	if s, ok, e := dfa.Run(d, path...); s != state || ok != taken || e != api.OK {
		t.Errorf("Run(%s, %v) = %d, %v, %v, want %d, %v", told(d), path, s, ok, e, state, taken)
	}
}

// askNoRun asks for an error, and that there is nothing beside it.
func askNoRun(t *testing.T, d api.Dfa, want api.Errno, path ...int) {
	t.Helper()
	if s, ok, e := dfa.Run(d, path...); s != 0 || ok || e != want {
		t.Errorf("Run(%s, %v) = %d, %v, %v, want %v", told(d), path, s, ok, e, want)
	}
}

// askLeast asks for the least automaton of one, both as texts.
func askLeast(t *testing.T, s string, n int, want string) {
	t.Helper()
	l, e := dfa.Least(automaton(t, s), n)
	if e != api.OK || textOf(t, l, n) != want {
		t.Errorf("Least(%q) = %q, %v, want %q", s, textOf(t, l, n), e, want)
	}
}

// askSame asks Same both ways round.
func askSame(t *testing.T, a, b api.Dfa, want bool) {
	t.Helper()
	if dfa.Same(a, b) != want || dfa.Same(b, a) != want {
		t.Errorf("Same(%.80s, %.80s) is not %v", told(a), told(b), want)
	}
}

// copyOf shares no memory with an automaton.
func copyOf(d api.Dfa) api.Dfa {
	out := api.Dfa{Accept: slices.Clone(d.Accept)}
	for _, row := range d.Next {
		out.Next = append(out.Next, slices.Clone(row))
	}
	return out
}

// eachPath goes through all paths of at most so many of n devices.
func eachPath(n, most int, do func(path []int)) {
	var grow func(path []int)
	grow = func(path []int) {
		do(path)
		if len(path) < most {
			for i := range n {
				grow(append(path[:len(path):len(path)], i))
			}
		}
	}
	grow(nil)
}

// pathOf is a path of devices by their numbers.
func pathOf(l []api.Who, path []int) []api.Who {
	var out []api.Who
	for _, i := range path {
		out = append(out, l[i])
	}
	return out
}

// small are all expressions that may be, with just so many nodes, over two devices, one of another network, a class and RAny.
func small(nodes int) []api.Regex {
	by := [][]api.Regex{nil}
	for n := 1; n <= nodes; n++ {
		by = append(by, ofSize(n, by))
	}
	return by[nodes]
}

// ofSize are all of so many nodes, of those that have fewer.
func ofSize(n int, by [][]api.Regex) []api.Regex {
	if n == 1 {
		return []api.Regex{device("a"), device("b"), device("z"), class("x"), anyOne(), of(api.RSeq)}
	}
	var l []api.Regex
	for _, r := range by[n-1] {
		l = append(l, of(api.RStar, r), of(api.RPlus, r), of(api.ROpt, r))
	}
	var rows func(left int, kids []api.Regex)
	rows = func(left int, kids []api.Regex) {
		if left == 0 {
			for _, op := range []api.RegexOp{api.RSeq, api.RAlt} {
				if r := of(op, slices.Clone(kids)...); regex.Check(r) == api.OK {
					l = append(l, r)
				}
			}
		}
		for size := 1; size <= left && size < len(by); size++ {
			for _, r := range by[size] {
				rows(left-size, append(slices.Clone(kids), r))
			}
		}
	}
	rows(n-1, nil)
	return l
}

// someExpression is one that may be, of at most so many nodes and so deep.
func someExpression(r *rand.Rand, nodes, deep int) api.Regex {
	if nodes < 3 || deep < 2 || r.Intn(8) == 0 {
		return []api.Regex{device("a"), device("b"), device("c"), class("x"), class("y"), anyOne(), of(api.RSeq)}[r.Intn(7)]
	}
	op := api.RSeq + api.RegexOp(r.Intn(5))
	if op > api.RAlt {
		return of(op, someExpression(r, nodes-1, deep-1))
	}
	x := of(op)
	kids := 2 + r.Intn(min(4, nodes-2))
	for len(x.Kids) < kids {
		if k := someExpression(r, (nodes-1)/kids, deep-1); k.Op != op {
			x.Kids = append(x.Kids, k)
		}
	}
	return x
}

// someAutomaton is one that may be, of n devices, with so many states; numbers below 0 are of many kinds.
func someAutomaton(r *rand.Rand, states, n int) api.Dfa {
	d := api.Dfa{}
	none := r.Intn(4)
	accepts := 1 + r.Intn(4)
	for range states {
		row := make([]int, n)
		for i := range row {
			row[i] = r.Intn(states)
			if r.Intn(4) < none {
				row[i] = -1 - r.Intn(3)
			}
		}
		d.Next = append(d.Next, row)
		d.Accept = append(d.Accept, r.Intn(accepts) == 0)
	}
	return d
}
