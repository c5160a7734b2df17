package dfa_test

import (
	"math/rand"
	"slices"
	"strings"
	"testing"

	"milestone/api"
	"milestone/dfa"
	"milestone/regex"
)

// three are devices with no class, one, and several.
func three() []api.Who { return whos("a b:x c:y,x") }

// shown is an expression's text.
func shown(r api.Regex) string {
	s, _ := regex.Print(r)
	return s
}

// P10.1, P10.5, P10.6: the automata of all small expressions are those that their paths tell.
func TestBuildByPaths(t *testing.T) {
	for nodes, most := range map[int]int{1: 4, 2: 4, 3: 5, 4: 5} {
		for _, r := range small(nodes) {
			for _, l := range [][]api.Who{nil, whos("a"), whos("b:x a")} {
				want := leastByPaths(len(l), most, func(path []int) bool { return isOneOf(pathOf(l, path), r) })
				if got := textOf(t, build(t, r, l...), len(l)); got != want {
					t.Fatalf("Build(%s, %v) = %q, want %q", shown(r), l, got, want)
				}
			}
		}
	}
}

// P10.1, of greater ones, by regex.Match.
func TestBuildSomeByPaths(t *testing.T) {
	r := rand.New(rand.NewSource(10))
	for range 600 {
		x := someExpression(r, 14, 5)
		l := whos([]string{"a b:x", "b a:y,x", "c:y a"}[r.Intn(3)])
		d := build(t, x, l...)
		if len(d.Next) > 7 {
			continue
		}
		want := leastByPaths(2, 7, func(path []int) bool { return matches(x, l, path) })
		if got := textOf(t, d, 2); got != want {
			t.Fatalf("Build(%s, %v) = %q, want %q", shown(x), l, got, want)
		}
	}
}

// P10.5

func TestTakesWhatMatches(t *testing.T) {
	l := three()
	for _, x := range small(4) {
		d := build(t, x, l...)
		eachPath(3, 2, func(path []int) { askTakes(t, x, l, d, path, isOneOf(pathOf(l, path), x)) })
	}
	r := rand.New(rand.NewSource(5))
	many := 0
	for range 4000 {
		x := someExpression(r, 60, 8)
		d, e := dfa.Build(x, l...)
		if e == api.ErrMany {
			continue
		}
		if len(d.Next) > 8 {
			many++
		}
		for range 30 {
			path := somePath(r, d, 3, 12)
			askTakes(t, x, l, d, path, matches(x, l, path))
		}
	}
	same(t, "automata with many states come", many > 100, true)
}

// askTakes asks whether an automaton takes a path.
func askTakes(t *testing.T, x api.Regex, l []api.Who, d api.Dfa, path []int, want bool) {
	t.Helper()
	s, ok, e := dfa.Run(d, path...)
	if len(d.Next) == 0 && len(path) > 0 && e == api.ErrRange {
		// Without states there are no devices: what is asked is that the path is none.
		e = api.OK
	}
	if ok != want || e != api.OK || ok != taken(d, path) || s < 0 && ok {
		t.Fatalf("Run of Build(%s, %v), %v = %d, %v, %v, want %v", shown(x), l, path, s, ok, e, want)
	}
}

// somePath is one that mostly goes on where the automaton does.
func somePath(r *rand.Rand, d api.Dfa, n, most int) []int {
	var path []int
	s := 0
	for range r.Intn(most + 1) {
		device := r.Intn(n)
		for try := 0; try < 9 && s >= 0 && s < len(d.Next) && d.Next[s][device] < 0 && r.Intn(9) > 0; try++ {
			device = r.Intn(n)
		}
		if path = append(path, device); s >= 0 && s < len(d.Next) {
			s = d.Next[s][device]
		}
	}
	return path
}

// P10.6

// askIsLeast asks that no two states take the same paths, that each takes one, and that Least changes nothing.
func askIsLeast(t *testing.T, d api.Dfa, n int) {
	t.Helper()
	text := textOf(t, d, n)
	if want := leastByPairs(d, n); text != want {
		t.Fatalf("%q is not the least one, but %q", text, want)
	}
	again, e := dfa.Least(d, n)
	if e != api.OK || !dfa.Same(again, d) || told(again) != told(d) {
		t.Fatalf("Least of %q = %s, %v", text, told(again), e)
	}
}

func TestBuildIsLeast(t *testing.T) {
	l := three()
	for nodes := range 4 {
		for _, x := range small(nodes + 1) {
			askIsLeast(t, build(t, x, l...), 3)
		}
	}
	r := rand.New(rand.NewSource(6))
	for range 1500 {
		if d, e := dfa.Build(someExpression(r, 40, 7), l...); e == api.OK && len(d.Next) < 40 {
			askIsLeast(t, d, 3)
		}
	}
}

// P10.7

func TestAlike(t *testing.T) {
	l := three()
	some := slices.Concat(small(1), small(2))
	for _, s := range []string{"a b", "a|b", "a|()", "(a b)*", "(a .)?", "a* b*", "$x $y|a", "a z|b"} {
		some = append(some, parsed(t, s))
	}
	for _, x := range some {
		askAlike(t, l, x, x, "(x)+", "(x) (x)*")
		askAlike(t, l, x, x, "(x)?", "(x)|()")
		askAlike(t, l, x, x, "(x)*", "((x)+)?")
		askAlike(t, l, x, x, "(x)*", "((x)*)*")
		for _, y := range some {
			askAlike(t, l, x, y, "((x)|(y))*", "((x)*(y)*)*")
			askAlike(t, l, x, y, "(x)|(y)", "(y)|(x)|(x)")
			askAlike(t, l, x, y, "(x)((y)(x))*", "((x)(y))*(x)")
		}
	}
}

// askAlike asks for the same automaton of two texts in which x and y stand for others.
func askAlike(t *testing.T, l []api.Who, x, y api.Regex, one, other string) {
	t.Helper()
	put := strings.NewReplacer("x", shown(x), "y", shown(y))
	a, b := parsed(t, put.Replace(one)), parsed(t, put.Replace(other))
	if d, e := build(t, a, l...), build(t, b, l...); !dfa.Same(d, e) || textOf(t, d, 3) != textOf(t, e, 3) {
		t.Fatalf("Build(%s) = %q, Build(%s) = %q", shown(a), textOf(t, d, 3), shown(b), textOf(t, e, 3))
	}
}

// P10.7: what is alike over some devices need not be over others.
func TestAlikeOverSome(t *testing.T) {
	for _, c := range []struct{ one, other, devices, unlike string }{
		{"a|z", "a", "a b", "a z"}, {"$x", "a|b", "a:x b:x c", "a:x b c"}, {".", "a", "a", "a b"}, {"(z a)*", "()", "a b", "a z"}, {".* a", "(b* a)+", "a b", "a b c"}, {"$y?", "$x?", "a:x,y b", "a:x b:y"},
	} {
		one, other := parsed(t, c.one), parsed(t, c.other)
		l := whos(c.devices)
		same(t, c.one+" and "+c.other+" over "+c.devices, dfa.Same(build(t, one, l...), build(t, other, l...)), true)
		l = whos(c.unlike)
		same(t, c.one+" and "+c.other+" over "+c.unlike, dfa.Same(build(t, one, l...), build(t, other, l...)), false)
	}
}

// P10.1: ErrMany just where the sets, as the document's words tell them, are too many.
func TestSetsByWords(t *testing.T) {
	r := rand.New(rand.NewSource(256))
	come := map[api.Errno]int{}
	ask := func(x api.Regex, l []api.Who) {
		sets := setsByWords(x, l, api.MaxStates+1)
		d, e := dfa.Build(x, l...)
		come[e]++
		if (e == api.ErrMany) != (sets > api.MaxStates) || e != api.OK && e != api.ErrMany || len(d.Next) > sets {
			t.Fatalf("Build(%s, %v): %v with %d states, and %d sets", shown(x), l, e, len(d.Next), sets)
		}
	}
	l := whos("a b:x")
	// How many sets these have goes past the limit at another length each.
	for n := range 6 {
		behind := []string{" .", " .?", " (a|b)", " (a|.|z)", " $x?", " (.|())"}[n]
		for k := range 10 {
			for _, ahead := range []string{".* a", "(a|b)* $x", ".+ a .", "(a a|b)* b", "(. a?)* a", ".* a .* b"} {
				ask(parsed(t, ahead+strings.Repeat(behind, k)), l)
			}
		}
	}
	for range 300 {
		x := of(api.RSeq, of(api.RStar, someExpression(r, 6, 3)), someExpression(r, 6, 3))
		for range 4 + r.Intn(6) {
			x.Kids = append(x.Kids, someExpression(r, 3, 2))
		}
		if regex.Check(x) == api.OK {
			ask(x, l)
		}
	}
	for _, e := range []api.Errno{api.OK, api.ErrMany} {
		same(t, "each answer comes often", come[e] > 50, true)
	}
}

// The sets of a row whose places may be left out, by their number.
func TestSetsAtTheLimit(t *testing.T) {
	l := whos("a b:x")
	for _, c := range []struct {
		r    func(n int) api.Regex
		most int
	}{
		{func(n int) api.Regex { return row(n, anyOne()) }, 255},
		{func(n int) api.Regex { return row(n, of(api.ROpt, anyOne())) }, 255},
		{func(n int) api.Regex { return row(n, of(api.RStar, device("a"))) }, 499},
		{func(n int) api.Regex { return of(api.RStar, row(n, device("a"))) }, 255},
		{func(n int) api.Regex { return of(api.RAlt, row(n, device("a")), row(n, class("x"))) }, 127},
		{func(n int) api.Regex { return inRow(row(n, anyOne()), device("z")) }, 255},
	} {
		for _, n := range []int{c.most - 1, c.most, c.most + 1, c.most + 2} {
			x := c.r(n)
			if regex.Check(x) != api.OK {
				continue
			}
			want := api.OK
			if n > c.most {
				want = api.ErrMany
			}
			if _, e := dfa.Build(x, l...); e != want {
				t.Errorf("Build(%.40s.., %d of them): %v, want %v", shown(x), n, e, want)
			}
		}
	}
}

// P10.3

func TestLeastByPairs(t *testing.T) {
	r := rand.New(rand.NewSource(3))
	states := map[int]int{}
	for range 20000 {
		n := r.Intn(4)
		d := someAutomaton(r, r.Intn(9), n)
		askLeastOf(t, d, n)
		l, _ := dfa.Least(d, n)
		states[len(l.Next)]++
	}
	for n := range 6 {
		same(t, "answers of each size come", states[n] > 200, true)
	}
	for range 200 {
		askLeastOf(t, someAutomaton(r, 20+r.Intn(20), 2), 2)
	}
}

// askLeastOf asks for what all pairs of states tell, and that the answer takes the same paths.
func askLeastOf(t *testing.T, d api.Dfa, n int) {
	t.Helper()
	l, e := dfa.Least(d, n)
	if want := leastByPairs(d, n); e != api.OK || textOf(t, l, n) != want {
		t.Fatalf("Least(%s, %d) = %q, %v, want %q", told(d), n, textOf(t, l, n), e, want)
	}
	again, e := dfa.Least(l, n)
	if e != api.OK || told(again) != told(l) {
		t.Fatalf("Least of Least(%s, %d) = %s, %v", told(d), n, told(again), e)
	}
	eachPath(n, 4, func(path []int) {
		if taken(d, path) != taken(l, path) {
			t.Fatalf("Least(%s, %d) takes %v: %v", told(d), n, path, taken(l, path))
		}
	})
}

// P10.3, of all automata with at most three states and of one device, two states and of two.
func TestLeastOfAllSmall(t *testing.T) {
	for _, c := range []struct{ states, n int }{{0, 2}, {1, 0}, {2, 0}, {1, 1}, {1, 2}, {2, 1}, {2, 2}, {3, 1}} {
		rows := c.states * c.n
		choices := 1
		for range rows {
			choices *= c.states + 1
		}
		for choice := range choices << c.states {
			d := api.Dfa{}
			left := choice >> c.states
			for s := range c.states {
				var row []int
				for range c.n {
					row = append(row, left%(c.states+1)-1)
					left /= c.states + 1
				}
				d.Next = append(d.Next, row)
				d.Accept = append(d.Accept, choice>>s&1 == 1)
			}
			askLeastOf(t, d, c.n)
			want := leastByPaths(c.n, 4, func(path []int) bool { return taken(d, path) })
			if l, _ := dfa.Least(d, c.n); textOf(t, l, c.n) != want {
				t.Fatalf("Least(%s, %d) = %q, want %q", told(d), c.n, textOf(t, l, c.n), want)
			}
		}
	}
}

// P10.3, P10.6: an automaton whose states come several times, in another order, with some that take nothing and some that are never reached, comes to itself again.
func TestLeastOfBlownUp(t *testing.T) {
	r := rand.New(rand.NewSource(4))
	l := three()
	for range 1500 {
		x := someExpression(r, 40, 7)
		d, e := dfa.Build(x, l...)
		if e != api.OK {
			continue
		}
		great := blownUp(r, d, 3)
		if got, e := dfa.Least(great, 3); e != api.OK || !dfa.Same(got, d) {
			t.Fatalf("Least(%s) = %s, %v, want %s", told(great), told(got), e, told(d))
		}
	}
}

// blownUp has one to four states for each, and some more.
func blownUp(r *rand.Rand, d api.Dfa, n int) api.Dfa {
	var from []int // of each state that of which it is a copy; the number behind the last: one that takes nothing
	for s := range len(d.Next) + 1 {
		from = append(from, slices.Repeat([]int{s}, 1+r.Intn(4))...)
	}
	r.Shuffle(len(from), func(i, j int) { from[i], from[j] = from[j], from[i] })
	first := slices.Index(from, 0)
	from[0], from[first] = from[first], from[0]
	copyOf := func(s int) int {
		for {
			if i := r.Intn(len(from)); from[i] == s {
				return i
			}
		}
	}
	var out api.Dfa
	for _, s := range from {
		row := make([]int, n)
		for device := range row {
			row[device] = -1 - r.Intn(2)
			if s < len(d.Next) && d.Next[s][device] >= 0 {
				row[device] = copyOf(d.Next[s][device])
			} else if r.Intn(2) == 0 {
				row[device] = copyOf(len(d.Next))
			}
		}
		out.Next = append(out.Next, row)
		out.Accept = append(out.Accept, s < len(d.Next) && d.Accept[s])
	}
	return out
}

// P10.2, of many automata: each step by itself.
func TestRunByWords(t *testing.T) {
	r := rand.New(rand.NewSource(2))
	for range 3000 {
		n := 1 + r.Intn(3)
		d := someAutomaton(r, 1+r.Intn(6), n)
		path := somePath(r, d, n, 8)
		want := 0
		for _, device := range path {
			if want >= 0 {
				want = max(d.Next[want][device], -1)
			}
		}
		askRun(t, d, want, want >= 0 && d.Accept[want], path...)
	}
}

// P10.4: a text tells its automaton, and Same is as the texts are.
func TestTextsAndSame(t *testing.T) {
	r := rand.New(rand.NewSource(44))
	come := map[bool]int{}
	for range 20000 {
		n := r.Intn(3)
		a := someAutomaton(r, r.Intn(3), n)
		b := someAutomaton(r, r.Intn(3), n)
		same(t, "the text's automaton", dfa.Same(a, automaton(t, textOf(t, a, n))), true)
		alike := textOf(t, a, n) == textOf(t, b, n)
		come[alike]++
		askSame(t, a, b, alike)
	}
	same(t, "both come often", min(come[true], come[false]) > 1000, true)
}

// Rule 5: answers hang on no earlier call.
func TestAgain(t *testing.T) {
	r := rand.New(rand.NewSource(7))
	l := three()
	var xs []api.Regex
	var texts []string
	for range 200 {
		x := someExpression(r, 30, 6)
		if d, e := dfa.Build(x, l...); e == api.OK {
			xs, texts = append(xs, x), append(texts, textOf(t, d, 3))
		}
	}
	for i := len(xs) - 1; i >= 0; i-- {
		same(t, "Build of "+shown(xs[i]), textOf(t, build(t, xs[i], l...), 3), texts[i])
	}
}
