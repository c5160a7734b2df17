package rules_test

import (
	"fmt"
	"math"
	"slices"
	"strings"
	"testing"

	"milestone/api"
	"milestone/rules"
)

// P5.1

func TestCheckOfWidths(t *testing.T) {
	for width := 1; width <= api.MaxBits; width++ {
		for _, c := range []string{"0", "1", "x"} {
			askCheck(t, ruleOf(5, strings.Repeat(c, width), drop()), width, api.OK)
		}
	}
}

func TestCheckOfPriorities(t *testing.T) {
	for _, p := range []int{0, 1, 5, api.MaxPrio - 1, api.MaxPrio} {
		askCheck(t, ruleOf(p, "10x", deliver()), 3, api.OK)
	}
	askLine(t, ruleOf(0, "10x", drop()), "rule 0 10x drop")
	askLine(t, ruleOf(api.MaxPrio, "10x", drop()), "rule 2147483647 10x drop")
}

func TestActions(t *testing.T) {
	askAction(t, drop(), "drop")
	askAction(t, deliver(), "deliver")
	askAction(t, api.Action{Kind: api.Drop, Ports: []string{}}, "drop")
	askAction(t, all("p"), "all(p)")
	askAction(t, anyOf("p1", "p2"), "any(p1,p2)")
	askAction(t, all("A", "B", "_", "a", "a-", "a0", "aa", "b-1"), "all(A,B,_,a,a-,a0,aa,b-1)")
	askAction(t, anyOf("all", "any", "deliver", "drop", "rule"), "any(all,any,deliver,drop,rule)")
	for _, n := range []int{1, 2, 63, api.MaxPorts} {
		l := ports(n)
		askAction(t, all(l...), "all("+strings.Join(l, ",")+")")
		askAction(t, anyOf(l...), "any("+strings.Join(l, ",")+")")
		askCheck(t, ruleOf(5, "10x", all(l...)), 3, api.OK)
	}
	long := strings.Repeat("n", api.MaxName)
	askAction(t, anyOf(long), "any("+long+")")
}

func TestLinesOfRules(t *testing.T) {
	askLine(t, ruleOf(5, "10x", anyOf("p1", "p2")), "rule 5 10x any(p1,p2)")
	askLine(t, ruleOf(5, "10x", all("p1")), "rule 5 10x all(p1)")
	askLine(t, ruleOf(70, "1", deliver()), "rule 70 1 deliver")
	askLine(t, ruleOf(70, "x", drop()), "rule 70 x drop")
	wide := strings.Repeat("01x0", api.MaxBits/4)
	askLine(t, ruleOf(1, wide, drop()), "rule 1 "+wide+" drop")
	l := ports(api.MaxPorts)
	askLine(t, ruleOf(1, "x", all(l...)), "rule 1 x all("+strings.Join(l, ",")+")")
}

// P5.2

func TestParseOfTheDocument(t *testing.T) {
	askParse(t, "rule 5 10x any(p2,p1)", 3, ruleOf(5, "10x", anyOf("p1", "p2")))
	askFault(t, "rule 5 1x2 drop", 3, 1, 8, api.ErrCube)
	askFault(t, "rule 5", 3, 1, 7, api.ErrCube)
	askFault(t, "rule 5 10x all()", 3, 1, 16, api.ErrName)
}

func TestParseOfNoRule(t *testing.T) {
	for _, s := range []string{"", "\n", "\n\n\n", " \t\n ", "# rule 5 10x drop", "#\n#rule\n \t# %"} {
		for _, width := range []int{1, 3, api.MaxBits} {
			askParse(t, s, width)
		}
	}
}

func TestParseOfAllActions(t *testing.T) {
	askParse(t, "rule 1 10x drop\nrule 2 10x deliver\nrule 3 10x all(p)\nrule 4 10x any(p)", 3,
		ruleOf(1, "10x", drop()), ruleOf(2, "10x", deliver()), ruleOf(3, "10x", all("p")), ruleOf(4, "10x", anyOf("p")))
	// A name is one, though it be a word of lines, too, or a cube.
	askParse(t, "rule 1 x all(rule,drop,any,x)", 1, ruleOf(1, "x", all("any", "drop", "rule", "x")))
}

func TestParseOfBlanksAndRemarks(t *testing.T) {
	r := ruleOf(5, "10x", anyOf("p1", "p2"))
	askParse(t, "  rule\t5  10x any ( p2 , p1 ) # rule\n\n# none\n\t\n", 3, r)
	askParse(t, "rule 5 10x any(p2,p1)# drop", 3, r)
	askParse(t, "#\n\n rule 5 10x any(p1,p2)\n#", 3, r)
}

// The lines' order stays, whichever rule stands ahead.
func TestParseKeepsTheOrderOfLines(t *testing.T) {
	askParse(t, "rule 1 x drop\nrule 3 0 drop\nrule 2 1 drop\nrule 2 0 drop", 1,
		ruleOf(1, "x", drop()), ruleOf(3, "0", drop()), ruleOf(2, "1", drop()), ruleOf(2, "0", drop()))
}

func TestParseOfEdges(t *testing.T) {
	wide := strings.Repeat("x10x", api.MaxBits/4)
	askParse(t, "rule 0 "+wide+" drop", api.MaxBits, ruleOf(0, wide, drop()))
	askParse(t, "rule 2147483647 1 drop", 1, ruleOf(api.MaxPrio, "1", drop()))
	askParse(t, "rule 10 10 drop", 2, ruleOf(10, "10", drop()))
	long := strings.Repeat("n", api.MaxName)
	askParse(t, "rule 1 1 all("+long+")", 1, ruleOf(1, "1", all(long)))
}

func TestParsePutsPortsInOrder(t *testing.T) {
	askParse(t, "rule 5 x all(p,p)", 1, ruleOf(5, "x", all("p")))
	askParse(t, "rule 5 x any(q,p,q,p,p)", 1, ruleOf(5, "x", anyOf("p", "q")))
	askParse(t, "rule 5 x all(b,_,B,a0,a,a-,A)", 1, ruleOf(5, "x", all("A", "B", "_", "a", "a-", "a0", "b")))
	l := ports(api.MaxPorts)
	turned := slices.Clone(l)
	slices.Reverse(turned)
	askParse(t, "rule 5 x any("+strings.Join(turned, ",")+")", 1, ruleOf(5, "x", anyOf(l...)))
	// 64 are not too many, though each stands often.
	often := strings.Join(slices.Repeat(turned, 50), ",")
	askParse(t, "rule 5 x all("+often+")", 1, ruleOf(5, "x", all(l...)))
}

// One key is one Priority and one Match: where one of these is another one, both rules may be.
func TestParseOfKeysThatAreNotAlike(t *testing.T) {
	askParse(t, "rule 1 0 drop\nrule 2 0 drop\nrule 1 x drop\nrule 1 1 drop", 1,
		ruleOf(1, "0", drop()), ruleOf(2, "0", drop()), ruleOf(1, "x", drop()), ruleOf(1, "1", drop()))
	askParse(t, "rule 1 10 drop\nrule 11 00 drop\nrule 1 11 drop", 2,
		ruleOf(1, "10", drop()), ruleOf(11, "00", drop()), ruleOf(1, "11", drop()))
}

// manyRules are so many, of unlike Priorities.
func manyRules(n int) []api.Rule {
	var l []api.Rule
	for i := range n {
		l = append(l, ruleOf(i, "x", drop()))
	}
	return l
}

// manyLines are manyRules' lines.
func manyLines(n int) string {
	var b strings.Builder
	for i := range n {
		fmt.Fprintf(&b, "rule %d x drop\n", i)
	}
	return b.String()
}

func TestAsManyRulesAsMayBe(t *testing.T) {
	s := manyLines(api.MaxRules)
	askParse(t, s, 1, manyRules(api.MaxRules)...)
	askParse(t, strings.ReplaceAll(s, "\n", "\n\n# rule 1 x drop\n"), 1, manyRules(api.MaxRules)...)
	askPrint(t, manyRules(api.MaxRules), 1, s)
}

// P5.3

func TestPrint(t *testing.T) {
	askPrint(t, nil, 1, "")
	askPrint(t, []api.Rule{}, api.MaxBits, "")
	askPrint(t, []api.Rule{ruleOf(5, "10x", anyOf("p1", "p2"))}, 3, "rule 5 10x any(p1,p2)\n")
	// As they come, in whatever order.
	askPrint(t, []api.Rule{ruleOf(1, "x", drop()), ruleOf(3, "0", deliver()), ruleOf(2, "1", all("p")), ruleOf(2, "0", anyOf("p", "q"))}, 1,
		"rule 1 x drop\nrule 3 0 deliver\nrule 2 1 all(p)\nrule 2 0 any(p,q)\n")
	wide := strings.Repeat("x", api.MaxBits)
	askPrint(t, []api.Rule{ruleOf(api.MaxPrio, wide, drop())}, api.MaxBits, "rule 2147483647 "+wide+" drop\n")
}

// There is no limit on the text: what is more than a text that can be read may be printed.
func TestPrintOfMuch(t *testing.T) {
	var l []api.Rule
	names := ports(api.MaxPorts)
	for i := range names {
		names[i] += strings.Repeat("n", api.MaxName-len(names[i]))
	}
	var want strings.Builder
	for i := range 400 {
		l = append(l, ruleOf(i, "x", all(names...)))
		fmt.Fprintf(&want, "rule %d x all(%s)\n", i, strings.Join(names, ","))
	}
	same(t, "more than MaxText", want.Len() > api.MaxText, true)
	askPrint(t, l, 1, want.String())
	askFault(t, want.String(), 1, 0, 0, api.ErrLong)
}

// P5.4

func TestAhead(t *testing.T) {
	for _, c := range []struct {
		a, b api.Rule
		want bool
	}{
		{ruleOf(2, "x", drop()), ruleOf(1, "x", drop()), true},
		{ruleOf(1, "x", drop()), ruleOf(2, "x", drop()), false},
		{ruleOf(10, "x", drop()), ruleOf(9, "0", drop()), true},
		{ruleOf(1, "0", drop()), ruleOf(1, "1", drop()), true},
		{ruleOf(1, "1", drop()), ruleOf(1, "x", drop()), true},
		{ruleOf(1, "x", drop()), ruleOf(1, "0", drop()), false},
		{ruleOf(1, "0x", drop()), ruleOf(1, "10", drop()), true},
		{ruleOf(1, "x", drop()), ruleOf(1, "x", drop()), false},
		{ruleOf(1, "x", drop()), ruleOf(1, "x", all("p")), false},
		{ruleOf(1, "x", all("p")), ruleOf(1, "x", drop()), false},
		// What may not be is compared as it is: a beginning of another text is ahead of it.
		{ruleOf(1, "1", drop()), ruleOf(1, "10", drop()), true},
		{ruleOf(1, "", drop()), ruleOf(1, "0", drop()), true},
		{ruleOf(1, "10", drop()), ruleOf(1, "1", drop()), false},
		{ruleOf(1, "a", drop()), ruleOf(1, "\xff", drop()), true},
		{ruleOf(0, "x", drop()), ruleOf(-1, "x", drop()), true},
		{ruleOf(math.MaxInt, "x", drop()), ruleOf(math.MinInt, "x", drop()), true},
		{ruleOf(math.MinInt, "x", drop()), ruleOf(math.MaxInt, "x", drop()), false},
	} {
		same(t, fmt.Sprintf("Ahead(%v, %v)", c.a, c.b), rules.Ahead(c.a, c.b), c.want)
	}
}

func TestOrder(t *testing.T) {
	askOrder(t, nil)
	askOrder(t, []api.Rule{})
	low, high, zero, one := ruleOf(1, "0", drop()), ruleOf(9, "x", all("p", "q")), ruleOf(5, "0", deliver()), ruleOf(5, "1", anyOf("r"))
	askOrder(t, []api.Rule{low}, low)
	askOrder(t, []api.Rule{low, one, zero, high}, high, zero, one, low)
	askOrder(t, []api.Rule{high, zero, one, low}, high, zero, one, low)
	// What may not be has its place nevertheless.
	no := ruleOf(-1, "", api.Action{Kind: 9, Ports: []string{"q", "p", "p"}})
	askOrder(t, []api.Rule{no, low}, low, no)
	askOrder(t, []api.Rule{ruleOf(math.MinInt, "a", drop()), ruleOf(math.MaxInt, "b", drop())}, ruleOf(math.MaxInt, "b", drop()), ruleOf(math.MinInt, "a", drop()))
}

// Rules of alike keys stay in the order in which they were, however many there are.
func TestOrderOfAlikeKeys(t *testing.T) {
	var l, want []api.Rule
	for i := range 300 {
		l = append(l, ruleOf(i%3, "01x"[i%2:i%2+1], all(fmt.Sprintf("p%d", i))))
	}
	for _, k := range []int{2, 5, 1, 4, 0, 3} {
		for i := range 300 {
			if i%3 == k%3 && i%2 == k/3 {
				want = append(want, l[i])
			}
		}
	}
	same(t, "how many", len(want), 300)
	askOrder(t, l, want...)
}

func TestOrderOfMany(t *testing.T) {
	l := manyRules(3 * api.MaxRules)
	want := slices.Clone(l)
	slices.Reverse(want)
	askOrder(t, l, want...)
	askOrder(t, want, want...)
}
