package dfa_test

import (
	"fmt"
	"math"
	"slices"
	"strings"
	"testing"

	"milestone/api"
	"milestone/dfa"
)

// notNames are texts that are none.
var notNames = []string{"", "9", "9a", "-", "-a", "a b", " a", "a ", "a.", "$a", "(", "*", "\x00", "a\n", "caf\u00e9", "a\xff", strings.Repeat("a", api.MaxName+1)}

// P10.1

func TestDevicesWithoutNames(t *testing.T) {
	for _, name := range notNames {
		for _, l := range [][]api.Who{{who(name)}, {who("a"), who(name)}, {who(name), who("a")}, {who("a"), who(name, "x"), who("b")}, {who(name), who(name)}} {
			askNoBuild(t, fmt.Sprintf("%q", l), anyOne(), l, api.ErrName)
			askNoBuild(t, fmt.Sprintf("%q", l), of(api.RSeq), l, api.ErrName)
		}
	}
	long := strings.Repeat("a", api.MaxName)
	same(t, "Build over the longest name", textOf(t, build(t, device(long), who(long), who("_")), 2), "0 - 1 -\n1 * - -\n")
}

func TestNamesThatStandTwice(t *testing.T) {
	for _, devices := range []string{"a a", "a b a", "b a a", "a:x a:y", "a b c d b", "a a a"} {
		askNoBuild(t, devices, anyOne(), whos(devices), api.ErrName)
		askNoBuild(t, devices, device("z"), whos(devices), api.ErrName)
	}
	l := manyDevices(api.MaxDevices)
	l[255].Name = l[0].Name
	askNoBuild(t, "the first name as the last one", anyOne(), l, api.ErrName)
	askBuild(t, "a", "A a _a", "0 - - 1 -\n1 * - - -\n")
}

// inItself is an expression of a kind whose Kids are all itself.
func inItself(op api.RegexOp, kids int) api.Regex {
	r := api.Regex{Op: op, Kids: make([]api.Regex, kids)}
	for i := range r.Kids {
		r.Kids[i] = r
	}
	return r
}

func TestExpressionsThatMayNotBe(t *testing.T) {
	a := device("a")
	deep := a
	for range api.MaxDeep {
		deep = of(api.RStar, deep)
	}
	for what, c := range map[string]struct {
		r    api.Regex
		want api.Errno
	}{
		"no kind":                {api.Regex{}, api.ErrRegex},
		"another kind":           {api.Regex{Op: 9}, api.ErrRegex},
		"a kind below 0":         {api.Regex{Op: math.MinInt}, api.ErrRegex},
		"no name":                {device(""), api.ErrRegex},
		"no class":               {class("9"), api.ErrRegex},
		"a name of any":          {api.Regex{Op: api.RAny, Name: "a"}, api.ErrRegex},
		"a row of one":           {of(api.RSeq, a), api.ErrRegex},
		"one alternative":        {of(api.RAlt, a), api.ErrRegex},
		"no alternative":         {of(api.RAlt), api.ErrRegex},
		"nothing repeated":       {of(api.RStar), api.ErrRegex},
		"two repeated":           {of(api.RPlus, a, a), api.ErrRegex},
		"a row in a row":         {of(api.RSeq, a, of(api.RSeq, a, a)), api.ErrRegex},
		"a device with Kids":     {api.Regex{Op: api.RDevice, Name: "a", Kids: []api.Regex{a}}, api.ErrRegex},
		"one deep in it":         {of(api.RSeq, a, of(api.RStar, of(api.RAlt, a, of(api.ROpt)))), api.ErrRegex},
		"too deep":               {deep, api.ErrDeep},
		"too many nodes":         {row(api.MaxRegex, a), api.ErrMany},
		"one that is in itself":  {inItself(api.RStar, 1), api.ErrMany},
		"two that are in itself": {inItself(api.RAlt, 2), api.ErrMany},
	} {
		for _, l := range [][]api.Who{nil, whos("a"), whos("a b:x"), whos("a a"), {who("9")}} {
			askNoBuild(t, what, c.r, l, c.want)
		}
	}
}

func TestFirstErrorFirst(t *testing.T) {
	tooMany, wrong, twice := manyDevices(api.MaxDevices+1), []api.Who{who("a"), who("9")}, whos("a b a")
	bad, deep, sets := of(api.RStar), device("a"), row(api.MaxStates, anyOne())
	for range api.MaxDeep {
		deep = of(api.ROpt, deep)
	}
	askNoBuild(t, "a bad expression and too many devices", bad, tooMany, api.ErrRegex)
	askNoBuild(t, "a deep expression and too many devices", deep, tooMany, api.ErrDeep)
	askNoBuild(t, "a bad expression and a wrong name", bad, wrong, api.ErrRegex)
	askNoBuild(t, "a deep expression and a name twice", deep, twice, api.ErrDeep)
	askNoBuild(t, "a great expression and a wrong name", row(api.MaxRegex, anyOne()), wrong, api.ErrMany)
	for _, i := range []int{0, 100, 256} {
		l := slices.Clone(tooMany)
		l[i].Name = "9"
		askNoBuild(t, "too many devices and a wrong name", anyOne(), l, api.ErrMany)
		l[i].Name = l[(i+1)%257].Name
		askNoBuild(t, "too many devices and a name twice", anyOne(), l, api.ErrMany)
	}
	askNoBuild(t, "too many sets", sets, whos("a"), api.ErrMany)
	askNoBuild(t, "a wrong name and too many sets", sets, wrong, api.ErrName)
	askNoBuild(t, "a name twice and too many sets", sets, twice, api.ErrName)
	l := manyDevices(api.MaxDevices)
	l[255].Name = ""
	askNoBuild(t, "the last name wrong and too many sets", sets, l, api.ErrName)

	short := api.Dfa{Next: [][]int{{0, 1}, {0}}, Accept: []bool{true, true}}
	askNoRun(t, short, api.ErrDfa)
	askNoRun(t, short, api.ErrDfa, 7)
	askNoRun(t, api.Dfa{Accept: []bool{true}}, api.ErrDfa, 0)
}

// P10.2

func TestAutomataThatMayNotBe(t *testing.T) {
	for what, c := range map[string]struct {
		d api.Dfa
		n int
	}{
		"n below 0":                  {api.Dfa{}, -1},
		"n far below 0":              {api.Dfa{}, math.MinInt},
		"n below 0 and a state":      {api.Dfa{Next: [][]int{nil}, Accept: []bool{true}}, -1},
		"a row more than Accepts":    {api.Dfa{Next: [][]int{{0}, {0}}, Accept: []bool{true}}, 1},
		"a row without Accepts":      {api.Dfa{Next: [][]int{{0}}}, 1},
		"an empty row alone":         {api.Dfa{Next: [][]int{nil}}, 0},
		"an Accept more than rows":   {api.Dfa{Next: [][]int{{0}}, Accept: []bool{true, false}}, 1},
		"an Accept without rows":     {api.Dfa{Accept: []bool{false}}, 0},
		"a number of the Accept":     {api.Dfa{Next: [][]int{{1}}, Accept: []bool{true, false}}, 1},
		"a short row":                {api.Dfa{Next: [][]int{{0, 0}, {0}}, Accept: []bool{true, true}}, 2},
		"a long row":                 {api.Dfa{Next: [][]int{{0, 0}, {0, 0, 0}}, Accept: []bool{true, true}}, 2},
		"no row":                     {api.Dfa{Next: [][]int{{0, 0}, nil}, Accept: []bool{true, true}}, 2},
		"a short first row":          {api.Dfa{Next: [][]int{{0}, {0, 0}}, Accept: []bool{true, true}}, 2},
		"rows longer than n":         {api.Dfa{Next: [][]int{{0, 0}}, Accept: []bool{true}}, 1},
		"rows shorter than n":        {api.Dfa{Next: [][]int{{0, 0}}, Accept: []bool{true}}, 3},
		"rows of no device":          {api.Dfa{Next: [][]int{nil}, Accept: []bool{true}}, 1},
		"rows of one device":         {api.Dfa{Next: [][]int{{0}}, Accept: []bool{true}}, 0},
		"a number that is no state":  {api.Dfa{Next: [][]int{{1}}, Accept: []bool{true}}, 1},
		"another one":                {api.Dfa{Next: [][]int{{0, -1}, {1, 2}}, Accept: []bool{true, true}}, 2},
		"a great number":             {api.Dfa{Next: [][]int{{math.MaxInt}}, Accept: []bool{true}}, 1},
		"one of a state not reached": {api.Dfa{Next: [][]int{{0}, {1 << 40}}, Accept: []bool{true, true}}, 1},
	} {
		t.Run(what, func(t *testing.T) { askCheck(t, c.d, c.n, api.ErrDfa) })
	}
}

// Run takes n from the first row.
func TestRunOfAutomataThatMayNotBe(t *testing.T) {
	for _, d := range []api.Dfa{
		{Next: [][]int{{0}, {0}}, Accept: []bool{true}}, {Next: [][]int{{0}}}, {Next: [][]int{nil}}, {Accept: []bool{true}},
		{Next: [][]int{{0}}, Accept: []bool{true, false}}, {Next: [][]int{{0, 0}, {0}}, Accept: []bool{true, true}},
		{Next: [][]int{{0}, {0, 0}}, Accept: []bool{true, true}}, {Next: [][]int{nil, {0}}, Accept: []bool{true, true}},
		{Next: [][]int{{1}}, Accept: []bool{true}}, {Next: [][]int{{0}, {2}}, Accept: []bool{true, true}}, {Next: [][]int{{math.MaxInt}}, Accept: []bool{true}},
	} {
		for _, path := range [][]int{nil, {0}, {0, 0}, {1}, {-1}, {9}} {
			askNoRun(t, d, api.ErrDfa, path...)
		}
	}
}

func TestPathsWithOtherNumbers(t *testing.T) {
	d := automaton(t, "0 - 1 -\n1 * 1 0\n")
	for _, device := range []int{2, 3, 256, -1, -2, math.MaxInt, math.MinInt} {
		for _, path := range [][]int{{device}, {0, device}, {device, 0}, {0, 0, device, 0}, {1, device}, {1, 1, 1, device}} {
			askNoRun(t, d, api.ErrRange, path...)
		}
	}
}

// Rule 4

func TestNothingChanged(t *testing.T) {
	r := parsed(t, "(a|$y b)* . (z|())")
	kids := fmt.Sprint(r)
	l := []api.Who{who("c", "y", "x", "y"), who("b"), who("a", "z"), who("behind", "it")}
	want := fmt.Sprint(l)
	_, e := dfa.Build(r, l[:3]...)
	same(t, "Build's error", e, api.OK)
	same(t, "the expression", fmt.Sprint(r), kids)
	same(t, "the devices", fmt.Sprint(l), want)

	rows := [][]int{{2, 3, 9}, {1, 1, 9}, {2, 0, 9}, {-7, 1, 9}, {9, 9}}
	accept := []bool{true, false, true, false, true}
	d := api.Dfa{Next: rows[:4], Accept: accept[:4]}
	for i := range d.Next {
		d.Next[i] = d.Next[i][:2]
	}
	path := []int{0, 1, 1, 0, 9}
	dfa.Check(d, 2)
	dfa.Run(d, path[:4]...)
	dfa.Least(d, 2)
	dfa.Same(d, d)
	dfa.Text(d, 2)
	same(t, "the path", fmt.Sprint(path), "[0 1 1 0 9]")
	same(t, "the rows", fmt.Sprint(rows), "[[2 3] [1 1] [2 0] [-7 1] [9 9]]")
	for _, row := range rows[:4] {
		same(t, "what stands behind a row", row[:3][2], 9)
	}
	same(t, "the Accepts", fmt.Sprint(accept), "[true false true false true]")
}

// askOwnMemory asks that the lists of an answer share none with one another, nor with another answer.
func askOwnMemory(t *testing.T, what string, d api.Dfa, again func() api.Dfa) {
	t.Helper()
	want := told(d)
	for i := range d.Next {
		_ = append(d.Next[i], 77, 78)
		same(t, what+": rows behind one that has grown", told(d), want)
	}
	other := again()
	for i := range d.Next {
		for j := range d.Next[i] {
			d.Next[i][j] = 70 + i
		}
		d.Accept[i] = !d.Accept[i]
	}
	for i := range d.Next {
		for _, n := range d.Next[i] {
			same(t, what+": a row behind others are changed", n, 70+i)
		}
	}
	same(t, what+": another answer", told(other), want)
	same(t, what+": a later answer", told(again()), want)
}

func TestNothingKept(t *testing.T) {
	r := parsed(t, "a b* (c|a b) .")
	l := whos("a b c")
	askOwnMemory(t, "Build", build(t, r, l...), func() api.Dfa { return build(t, r, l...) })

	shared := []int{1, 2, 0}
	given := api.Dfa{Next: [][]int{shared, {2, 2, -1}, shared}, Accept: []bool{false, true, true}}
	least := func() api.Dfa {
		d, e := dfa.Least(given, 3)
		same(t, "Least's error", e, api.OK)
		return d
	}
	d := least()
	same(t, "Least", len(d.Next), 3)
	askOwnMemory(t, "Least", d, least)
	same(t, "what was handed in", told(given), "[[1 2 0] [2 2 -1] [1 2 0]] [false true true]")
	d = least()
	want := told(d)
	shared[0], given.Accept[0], given.Next[1] = 0, true, nil
	same(t, "an answer behind what was handed in is changed", told(d), want)
}

// A refused call leaves no trace in the next one.
func TestAfterError(t *testing.T) {
	askNoBuild(t, "too many sets", row(api.MaxStates, anyOne()), whos("a b"), api.ErrMany)
	askBuild(t, "a .* b", "a b", "0 - 1 -\n1 - 1 2\n2 * 1 2\n")
	askNoBuild(t, "a name twice", anyOne(), whos("a a"), api.ErrName)
	askBuild(t, ".", "a", "0 - 1\n1 * -\n")
	askCheck(t, api.Dfa{Next: [][]int{{1}}, Accept: []bool{true}}, 1, api.ErrDfa)
	askLeast(t, "0 * 0\n", 1, "0 * 0\n")
}
