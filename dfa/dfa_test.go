package dfa_test

import (
	"math"
	"slices"
	"strings"
	"testing"

	"milestone/api"
	"milestone/dfa"
)

// P10.1

func TestExamples(t *testing.T) {
	askBuild(t, "a .* b", "a b", "0 - 1 -\n1 - 1 2\n2 * 1 2\n")
	askBuild(t, "a", "b", "")
}

func TestBuild(t *testing.T) {
	askBuild(t, "a", "a", "0 - 1\n1 * -\n")
	askBuild(t, "a", "b a", "0 - - 1\n1 * - -\n")
	askBuild(t, ".", "a b", "0 - 1 1\n1 * - -\n")
	askBuild(t, "a b", "a b", "0 - 1 -\n1 - - 2\n2 * - -\n")
	askBuild(t, "a|b", "a b c", "0 - 1 1 -\n1 * - - -\n")
	askBuild(t, "a*", "a b", "0 * 0 -\n")
	askBuild(t, "a+", "a b", "0 - 1 -\n1 * 1 -\n")
	askBuild(t, "a?", "a b", "0 * 1 -\n1 * - -\n")
	askBuild(t, "a? b", "a b", "0 - 1 2\n1 - - 2\n2 * - -\n")
	askBuild(t, "(a b)*", "a b", "0 * 1 -\n1 - - 0\n")
	askBuild(t, "a b | b a", "a b", "0 - 1 2\n1 - - 3\n2 - 3 -\n3 * - -\n")
	askBuild(t, ".* a .", "a b", "0 - 1 0\n1 - 2 3\n2 * 2 3\n3 * 1 0\n")
	askBuild(t, "(a|b)* (a a | b b) (a|b)*", "a b", "0 - 1 2\n1 - 3 2\n2 - 1 3\n3 * 3 3\n")
	askBuild(t, "(.|()) (a*)? (b+|())", "a b", "0 * 1 1\n1 * 1 2\n2 * - 2\n")
}

func TestStatesAsTheyAreMet(t *testing.T) {
	askBuild(t, "a b c", "a b c", "0 - 1 - -\n1 - - 2 -\n2 - - - 3\n3 * - - -\n")
	askBuild(t, "a b c", "c b a", "0 - - - 1\n1 - - 2 -\n2 - 3 - -\n3 * - - -\n")
	askBuild(t, "a c c | b c", "a b c", "0 - 1 2 -\n1 - - - 2\n2 - - - 3\n3 * - - -\n")
	askBuild(t, "a c c | b c", "b a c", "0 - 1 2 -\n1 - - - 3\n2 - - - 1\n3 * - - -\n")
	askBuild(t, "a c c | b c", "c b a", "0 - - 1 2\n1 - 3 - -\n2 - 1 - -\n3 * - - -\n")
	askBuild(t, "a a | b (b | c a)", "a b c", "0 - 1 2 -\n1 - 3 - -\n2 - - 3 1\n3 * - - -\n")
	askBuild(t, "a+ b+ a", "b a", "0 - - 1\n1 - 2 1\n2 - 2 3\n3 * - -\n")
}

func TestClasses(t *testing.T) {
	askBuild(t, "$x", "a b:x c:y,x d:y", "0 - - 1 1 -\n1 * - - - -\n")
	askBuild(t, "$x $y", "a:x b:y c:x,y d", "0 - 1 - 1 -\n1 - - 2 2 -\n2 * - - - -\n")
	askBuild(t, "$core?b", "a:core b", "0 - 1 2\n1 - - 2\n2 * - -\n")
	askBuild(t, "$x|x", "a x b:x", "0 - - 1 1\n1 * - - -\n")
	askBuild(t, "$a|b", "a b", "0 - - 1\n1 * - -\n")
	askBuild(t, "$x", "a:y b:z,y", "")
	askBuild(t, "$x", "a", "")
	askBuild(t, "$x+", "a:x,x,x b", "0 - 1 -\n1 * 1 -\n")
	// Classes are any texts: chapter 10 asks names of the devices alone.
	d, e := dfa.Build(class("x"), who("a", "", "9", "\x00", strings.Repeat("x", 65), "x"), who("b", "", "x "))
	same(t, "Build's error", e, api.OK)
	same(t, "Build", textOf(t, d, 2), "0 - 1 -\n1 * - -\n")
}

func TestNoPath(t *testing.T) {
	for _, s := range []string{"z", "a z", "z a", "a* z", "$z", "a ($z|z) b", "(a z)+", "z+", ". z", ". . . z .*"} {
		askBuild(t, s, "a b:x", "")
	}
	askBuild(t, "z*", "a b", "0 * - -\n")
	askBuild(t, "z?", "a", "0 * -\n")
	askBuild(t, "a z | b", "a b", "0 - - 1\n1 * - -\n")
	askBuild(t, "a (z|())", "a b", "0 - 1 -\n1 * - -\n")
	askBuild(t, "(a z | a b)*", "a b", "0 * 1 -\n1 - - 0\n")
	askBuild(t, "a* (b z)*", "a b", "0 * 0 -\n")
}

func TestEmptyPath(t *testing.T) {
	askBuild(t, "()", "a b", "0 * - -\n")
	askBuild(t, "()|a", "a b", "0 * 1 -\n1 * - -\n")
	askBuild(t, "()*", "a", "0 * -\n")
	askBuild(t, "()+ ()?", "a", "0 * -\n")
	askBuild(t, "(()|a)+", "a", "0 * 0\n")
	askRun(t, build(t, parsed(t, "()"), whos("a")...), 0, true)
	askRun(t, build(t, parsed(t, "a"), whos("a")...), 0, false)
	askRun(t, build(t, parsed(t, "z"), whos("a")...), -1, false)
}

func TestNoDevice(t *testing.T) {
	askBuild(t, "()", "", "0 *\n")
	askBuild(t, ".*", "", "0 *\n")
	askBuild(t, "(a|b)? c*", "", "0 *\n")
	askBuild(t, "a", "", "")
	askBuild(t, ".", "", "")
	askBuild(t, ".+ a", "", "")
	d, e := dfa.Build(parsed(t, ".?"), []api.Who{}...)
	same(t, "Build of no device", dfa.Same(d, api.Dfa{Next: [][]int{nil}, Accept: []bool{true}}) && e == api.OK, true)
}

func TestOneDevice(t *testing.T) {
	askBuild(t, ".", "a", "0 - 1\n1 * -\n")
	askBuild(t, ".*", "a", "0 * 0\n")
	askBuild(t, "a a", "a:x", "0 - 1\n1 - 2\n2 * -\n")
	askBuild(t, "(a a)* | (a $x a)*", "a:x", "0 * 1\n1 - 2\n2 * 3\n3 * 4\n4 * 5\n5 - 0\n")
}

func TestMostDevices(t *testing.T) {
	l := manyDevices(api.MaxDevices)
	d := build(t, parsed(t, "d0 .* d255"), l...)
	same(t, "states", len(d.Next), 3)
	askRun(t, d, 1, false, 0)
	askRun(t, d, 2, true, 0, 7, 255)
	askRun(t, d, -1, false, 255, 0)
	row := strings.Repeat(" 1", 255)
	same(t, "its text", textOf(t, d, 256), "0 - 1"+strings.Repeat(" -", 255)+"\n1 -"+row+" 2\n2 *"+row+" 2\n")
	askNoBuild(t, "one device more", anyOne(), manyDevices(api.MaxDevices+1), api.ErrMany)
	askNoBuild(t, "many devices more", of(api.RSeq), manyDevices(3*api.MaxDevices), api.ErrMany)
}

// row is an expression of so many nodes of a kind, one behind the other.
func row(n int, r api.Regex) api.Regex { return of(api.RSeq, slices.Repeat([]api.Regex{r}, n)...) }

// The sets of a row of places are that of the empty path and one of each place.
func TestMostSets(t *testing.T) {
	l := whos("a b:x")
	for _, r := range []api.Regex{anyOne(), device("a"), class("x"), of(api.RAlt, device("a"), device("z")), of(api.RAlt, device("z"), class("x"))} {
		d := build(t, row(api.MaxStates-1, r), l...)
		same(t, "states", len(d.Next), api.MaxStates)
		askNoBuild(t, "one set more", row(api.MaxStates, r), l, api.ErrMany)
		askNoBuild(t, "many sets", row(300, r), l, api.ErrMany)
	}
	full := build(t, row(api.MaxRegex-1, device("a")), whos("b")...)
	same(t, "states over devices that are not named", isZero(full), true)
	none := build(t, row(api.MaxRegex-1, anyOne()))
	same(t, "states without devices", isZero(none), true)
}

// inRow is an expression of others one behind the other, those of a row among them taken apart.
func inRow(l ...api.Regex) api.Regex {
	r := of(api.RSeq)
	for _, x := range l {
		if x.Op == api.RSeq {
			r.Kids = append(r.Kids, x.Kids...)
		} else {
			r.Kids = append(r.Kids, x)
		}
	}
	return r
}

// What counts is sets, not the states that are left of them.
func TestSetsThatBecomeOneState(t *testing.T) {
	l := whos("a b")
	all := of(api.RStar, anyOne())
	const most = api.MaxStates - 2
	for _, r := range []api.Regex{anyOne(), of(api.ROpt, anyOne())} {
		same(t, "a row or all", textOf(t, build(t, of(api.RAlt, row(most, r), all), l...), 2), "0 * 0 0\n")
		askNoBuild(t, "a row or all, one set more", of(api.RAlt, row(most+1, r), all), l, api.ErrMany)
	}
	// A set counts though no path from it can be ended over these devices.
	for _, z := range []api.Regex{device("z"), class("z")} {
		same(t, "no path", isZero(build(t, inRow(row(most+1, anyOne()), z), l...)), true)
		askNoBuild(t, "no path, one set more", inRow(row(most+2, anyOne()), z), l, api.ErrMany)
	}
}

// names is an expression of any of so many devices.
func names(n int) api.Regex {
	r := of(api.RAlt)
	for _, w := range manyDevices(n) {
		r.Kids = append(r.Kids, device(w.Name))
	}
	return r
}

// Devices that stand for places of their own lead to sets of their own, though to one state.
func TestSetsOfDevices(t *testing.T) {
	for _, r := range []api.Regex{names(255), names(api.MaxRegex - 2)} {
		d := build(t, of(api.RStar, r), manyDevices(255)...)
		same(t, "any of many", textOf(t, d, 255), "0 *"+strings.Repeat(" 0", 255)+"\n")
		askNoBuild(t, "any of too many", of(api.RStar, names(256)), manyDevices(256), api.ErrMany)
	}
	same(t, "states", len(build(t, of(api.RStar, names(255)), manyDevices(256)...).Next), 1)
}

func TestGreatestExpressions(t *testing.T) {
	l := manyDevices(api.MaxDevices)
	deep := device("d1")
	for i := range api.MaxDeep - 1 {
		deep = of(api.RStar+api.RegexOp(i%3), deep)
	}
	same(t, "deep", textOf(t, build(t, deep, whos("d0 d1")...), 2), "0 * - 0\n")
	all := build(t, of(api.RStar, of(api.RAlt, row(api.MaxRegex-2, anyOne()).Kids...)), l...)
	same(t, "wide", textOf(t, all, 256), "0 *"+strings.Repeat(" 0", 256)+"\n")
	askNoBuild(t, "many that may be left out", row(499, of(api.ROpt, anyOne())), l, api.ErrMany)
	askNoBuild(t, "many sets of many places", inRow(of(api.RStar, anyOne()), device("d7"), row(900, anyOne())), l, api.ErrMany)
}

// P10.2

func TestCheck(t *testing.T) {
	askCheck(t, api.Dfa{}, 0, api.OK)
	askCheck(t, api.Dfa{Next: [][]int{}, Accept: []bool{}}, 0, api.OK)
	askCheck(t, api.Dfa{}, 7, api.OK)
	askCheck(t, api.Dfa{}, math.MaxInt, api.OK)
	askCheck(t, api.Dfa{Next: [][]int{{}}, Accept: []bool{false}}, 0, api.OK)
	askCheck(t, api.Dfa{Next: [][]int{nil, {}}, Accept: []bool{true, false}}, 0, api.OK)
	askCheck(t, api.Dfa{Next: [][]int{{0}}, Accept: []bool{false}}, 1, api.OK)
	askCheck(t, api.Dfa{Next: [][]int{{1, -1}, {-7, math.MinInt}}, Accept: []bool{false, true}}, 2, api.OK)
	for _, n := range []int{255, 256, 257, 1000} {
		askCheck(t, api.Dfa{Next: [][]int{make([]int, n)}, Accept: []bool{true}}, n, api.OK)
	}
	many := api.Dfa{Next: make([][]int, 1000), Accept: make([]bool, 1000)}
	askCheck(t, many, 0, api.OK)
}

func TestRun(t *testing.T) {
	d := automaton(t, "0 - 1 -\n1 * 1 2\n2 - 0 3\n3 * - 3\n")
	askRun(t, d, 0, false)
	askRun(t, d, 1, true, 0)
	askRun(t, d, 1, true, 0, 0, 0, 0)
	askRun(t, d, 2, false, 0, 1)
	askRun(t, d, 3, true, 0, 1, 1, 1)
	askRun(t, d, 0, false, 0, 1, 0)
	askRun(t, d, 1, true, 0, 1, 0, 0)
	askRun(t, d, -1, false, 1)
	askRun(t, d, -1, false, 1, 0)
	askRun(t, d, -1, false, 0, 1, 1, 0, 0)
	d.Next[0][1] = math.MinInt
	askRun(t, d, -1, false, 1)
	askRun(t, automaton(t, "0 * 0\n"), 0, true, make([]int, 100000)...)
}

func TestRunWithoutStatesOrDevices(t *testing.T) {
	askRun(t, api.Dfa{}, -1, false)
	askRun(t, api.Dfa{Next: [][]int{}, Accept: []bool{}}, -1, false, []int{}...)
	for _, device := range []int{0, 1, -1, math.MaxInt, math.MinInt} {
		askNoRun(t, api.Dfa{}, api.ErrRange, device)
	}
	askRun(t, api.Dfa{Next: [][]int{nil}, Accept: []bool{true}}, 0, true)
	askRun(t, api.Dfa{Next: [][]int{nil, nil}, Accept: []bool{false, true}}, 0, false)
	askNoRun(t, api.Dfa{Next: [][]int{nil}, Accept: []bool{true}}, api.ErrRange, 0)
}

// P10.3

func TestLeast(t *testing.T) {
	askLeast(t, "0 * 2 3\n1 - 1 1\n2 * 2 0\n3 - 3 1\n", 2, "0 * 1 -\n1 * 1 0\n")
	askLeast(t, "", 3, "")
	askLeast(t, "0 -\n", 0, "")
	askLeast(t, "0 *\n", 0, "0 *\n")
	askLeast(t, "0 *\n1 -\n2 *\n", 0, "0 *\n")
	askLeast(t, "0 - 0 0\n", 2, "")
	askLeast(t, "0 - 1\n1 - 2\n2 - 0\n", 1, "")
	askLeast(t, "0 * 1\n1 * 2\n2 * 0\n", 1, "0 * 0\n")
	askLeast(t, "0 * 1\n1 - 2\n2 * 3\n3 - 0\n", 1, "0 * 1\n1 - 0\n")
	askLeast(t, "0 * 1\n1 - 2\n2 - 3\n3 * 4\n4 - 5\n5 - 0\n", 1, "0 * 1\n1 - 2\n2 - 0\n")
	askLeast(t, "0 - 1 2\n1 - 3 3\n2 - 3 3\n3 * - -\n", 2, "0 - 1 1\n1 - 2 2\n2 * - -\n")
	askLeast(t, "0 - 1 2\n1 - 3 3\n2 - 3 -\n3 * - -\n", 2, "0 - 1 2\n1 - 3 3\n2 - 3 -\n3 * - -\n")
}

func TestLeastOfStatesNeverReached(t *testing.T) {
	askLeast(t, "0 * 0\n1 - 0\n2 * 1\n", 1, "0 * 0\n")
	askLeast(t, "0 - 3\n1 * 3\n2 - 1\n3 * -\n", 1, "0 - 1\n1 * -\n")
	askLeast(t, "0 - 0\n1 * 0\n", 1, "")
	askLeast(t, "0 - -\n1 * 0\n", 1, "")
}

func TestLeastOfStatesThatTakeNothing(t *testing.T) {
	askLeast(t, "0 - 1 2\n1 * - 2\n2 - 2 3\n3 - - 2\n", 2, "0 - 1 -\n1 * - -\n")
	askLeast(t, "0 * 1\n1 - 1\n", 1, "0 * -\n")
	askLeast(t, "0 * 1 0\n1 - 2 2\n2 - 1 -\n", 2, "0 * - 0\n")
	// One that leads to such a state is as one that leads to none.
	askLeast(t, "0 - 1 2\n1 * - -\n2 * 3 3\n3 - 3 3\n", 2, "0 - 1 1\n1 * - -\n")
}

func TestLeastNumbersAnew(t *testing.T) {
	askLeast(t, "0 - 3 1\n1 - - 2\n2 * 0 -\n3 - 2 1\n", 2, "0 - 1 2\n1 - 3 2\n2 - - 3\n3 * 0 -\n")
	askLeast(t, "0 - - 2\n1 * - 0\n2 - 1 -\n", 2, "0 - - 1\n1 - 2 -\n2 * - 0\n")
}

// Each automaton that is told has -1 where no path goes on.
func TestLeastTellsNoneAsMinusOne(t *testing.T) {
	d, e := dfa.Least(api.Dfa{Next: [][]int{{-5, 1, math.MinInt}, {2, -2, 2}, {2, -1, -9}}, Accept: []bool{false, true, false}}, 3)
	same(t, "Least's error", e, api.OK)
	same(t, "Least", told(d), told(api.Dfa{Next: [][]int{{-1, 1, -1}, {-1, -1, -1}}, Accept: []bool{false, true}}))
	same(t, "Build", told(build(t, parsed(t, "a z | b"), whos("a b")...)), told(api.Dfa{Next: [][]int{{-1, 1}, {-1, -1}}, Accept: []bool{false, true}}))
}

// cycle is an automaton of one device that goes round through so many states, each step-th of which accepts.
func cycle(states, step int) api.Dfa {
	d := api.Dfa{Accept: make([]bool, states)}
	for s := range states {
		d.Next = append(d.Next, []int{(s + 1) % states})
		d.Accept[s] = s%step == 0
	}
	return d
}

func TestLeastOfGreatAutomata(t *testing.T) {
	const most = 200000
	chain := cycle(most, most)
	chain.Next[most-1][0] = -1
	chain.Accept[0], chain.Accept[most-1] = false, true
	d, e := dfa.Least(chain, 1)
	same(t, "a chain", dfa.Same(d, chain) && e == api.OK, true)
	d, e = dfa.Least(cycle(most, 1000), 1)
	same(t, "a cycle", dfa.Same(d, cycle(1000, 1000)) && e == api.OK, true)
	d, e = dfa.Least(cycle(most, 1), 1)
	same(t, "one that takes all", dfa.Same(d, cycle(1, 1)) && e == api.OK, true)
	wide := api.Dfa{Next: slices.Repeat([][]int{make([]int, 2000)}, 1000), Accept: make([]bool, 1000)}
	d, e = dfa.Least(wide, 2000)
	same(t, "one that takes nothing", isZero(d) && e == api.OK, true)
	wide.Accept[0] = true
	d, e = dfa.Least(wide, 2000)
	same(t, "one of many devices", dfa.Same(d, api.Dfa{Next: wide.Next[:1], Accept: []bool{true}}) && e == api.OK, true)
}

// P10.4

func TestText(t *testing.T) {
	for _, c := range []struct {
		d    api.Dfa
		n    int
		want string
	}{
		{api.Dfa{}, 0, ""}, {api.Dfa{}, 5, ""}, {api.Dfa{}, math.MaxInt, ""},
		{api.Dfa{Next: [][]int{{}}, Accept: []bool{true}}, 0, "0 *\n"},
		{api.Dfa{Next: [][]int{nil, nil}, Accept: []bool{false, true}}, 0, "0 -\n1 *\n"},
		{api.Dfa{Next: [][]int{{0}}, Accept: []bool{false}}, 1, "0 - 0\n"},
		{api.Dfa{Next: [][]int{{-1}}, Accept: []bool{true}}, 1, "0 * -\n"},
		{api.Dfa{Next: [][]int{{1, -1}, {-20, math.MinInt}}, Accept: []bool{false, true}}, 2, "0 - 1 -\n1 * - -\n"},
		{api.Dfa{Next: [][]int{{2, 1, 0}, {0, 0, -3}, {-1, 2, 1}}, Accept: []bool{true, true, false}}, 3, "0 * 2 1 0\n1 * 0 0 -\n2 - - 2 1\n"},
	} {
		if s, e := dfa.Text(c.d, c.n); s != c.want || e != api.OK {
			t.Errorf("Text(%s, %d) = %q, %v, want %q", told(c.d), c.n, s, e, c.want)
		}
	}
	s := textOf(t, cycle(1001, 1000), 1)
	same(t, "a long text", strings.HasPrefix(s, "0 * 1\n1 - 2\n") && strings.HasSuffix(s, "\n9 - 10\n10 - 11\n"+s[strings.Index(s, "11 - "):]) && strings.HasSuffix(s, "\n999 - 1000\n1000 * 0\n"), true)
}

func TestSame(t *testing.T) {
	d := automaton(t, "0 - 1 -\n1 * 0 1\n")
	askSame(t, d, copyOf(d), true)
	askSame(t, api.Dfa{}, api.Dfa{Next: [][]int{}, Accept: []bool{}}, true)
	askSame(t, api.Dfa{Next: [][]int{nil}, Accept: []bool{true}}, api.Dfa{Next: [][]int{{}}, Accept: []bool{true}}, true)
	askSame(t, api.Dfa{}, d, false)
	for _, s := range []string{"0 * 1 -\n1 * 0 1\n", "0 - 1 -\n1 - 0 1\n", "0 - 1 1\n1 * 0 1\n", "0 - - -\n1 * 0 1\n", "0 - 1 -\n1 * 0 0\n", "0 - 1 -\n1 * 0 -\n", "0 - 1 -\n", "0 - 1 -\n1 * 0 1\n2 - - -\n", "0 - 1\n1 * 0\n", "0 - 1 - -\n1 * 0 1 -\n", "0 - - 1\n1 * 1 0\n"} {
		askSame(t, d, automaton(t, s), false)
	}
	// The same paths are not enough.
	askSame(t, automaton(t, "0 * 1\n1 * 0\n"), automaton(t, "0 * 0\n"), false)
}

// Rule 1: Same is asked of automata that may not be, too.
func TestSameOfAny(t *testing.T) {
	for _, d := range []api.Dfa{
		{Next: [][]int{{1}}}, {Accept: []bool{true}}, {Accept: []bool{false}}, {Next: [][]int{{7, 8}, {9}}, Accept: []bool{true, false, true}}, {Next: [][]int{nil}}, {Next: [][]int{nil, nil}},
	} {
		askSame(t, d, copyOf(d), true)
		askSame(t, d, api.Dfa{}, false)
		askSame(t, d, automaton(t, "0 - 1 -\n1 * 0 1\n"), false)
	}
	askSame(t, api.Dfa{Next: [][]int{{7, 8}, {9}}}, api.Dfa{Next: [][]int{{7}, {8, 9}}}, false)
	askSame(t, api.Dfa{Accept: []bool{true}}, api.Dfa{Accept: []bool{false}}, false)
	askSame(t, api.Dfa{Accept: []bool{true}}, api.Dfa{Accept: []bool{true, false}}, false)
}

func TestNumbersBelowZeroAreAlike(t *testing.T) {
	numbers := []int{-1, -2, -7, math.MinInt, math.MinInt32}
	with := func(x, y int) api.Dfa { return api.Dfa{Next: [][]int{{1, x}, {y, 0}}, Accept: []bool{false, true}} }
	for _, x := range numbers {
		for _, y := range numbers {
			askSame(t, with(x, y), with(-1, -1), true)
			askSame(t, with(x, 0), with(y, 0), true)
			askSame(t, with(x, 0), with(y, x), false)
			same(t, "Text", textOf(t, with(x, y), 2), "0 - 1 -\n1 * - 0\n")
			askRun(t, with(x, y), -1, false, 1)
			askRun(t, with(x, y), -1, false, 0, 0, 1)
			askRun(t, with(x, y), 0, false, 0, 1)
			d, e := dfa.Least(with(x, y), 2)
			same(t, "Least", told(d), told(with(-1, -1)))
			same(t, "Least's error", e, api.OK)
		}
	}
}
