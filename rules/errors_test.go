package rules_test

import (
	"fmt"
	"math"
	"slices"
	"strings"
	"testing"
	"unsafe"

	"milestone/api"
	"milestone/rules"
)

// wrongWidths are those that no header has.
var wrongWidths = []int{0, -1, api.MaxBits + 1, 1000, math.MaxInt, math.MinInt, 1 << 32}

// wrongPriorities are those that no rule has.
var wrongPriorities = []int{-1, -5, api.MaxPrio + 1, math.MaxInt, math.MinInt, 1<<32 + 5}

// noCubes are texts of which none is a cube.
func noCubes() []string {
	return []string{"", " ", "2", "1x2", "X", "1 0", "10x ", "1\x00", "\xff", "x\n", "drop", strings.Repeat("x", api.MaxBits+1)}
}

// wrongActions are some of each kind that may not be.
func wrongActions() []api.Action {
	out := []api.Action{
		{},
		{Kind: 5}, {Kind: -1}, {Kind: 5, Ports: []string{"p"}}, {Kind: 0, Ports: []string{"p"}}, {Kind: math.MaxInt}, {Kind: math.MinInt, Ports: []string{"p"}},
		{Kind: api.Drop, Ports: []string{"p"}}, {Kind: api.Deliver, Ports: []string{"p"}},
		{Kind: api.Drop, Ports: []string{"p", "q"}}, {Kind: api.Deliver, Ports: []string{""}},
		{Kind: api.Drop, Ports: ports(api.MaxPorts)},
	}
	for _, k := range []api.ActionKind{api.All, api.Any} {
		out = append(out, api.Action{Kind: k}, api.Action{Kind: k, Ports: []string{}},
			api.Action{Kind: k, Ports: ports(api.MaxPorts + 1)}, api.Action{Kind: k, Ports: ports(3 * api.MaxPorts)})
		for _, l := range [][]string{
			{"q", "p"}, {"p", "p"}, {"p", "q", "p"}, {"p", "q", "q"}, {"b", "a", "c"}, {"a", "c", "b"}, {"aa", "a"}, {"a", "B"},
			{""}, {"", "p"}, {"1p"}, {"-p"}, {"p", "p q"}, {"p", "p."}, {"->"}, {"("}, {"p,q"}, {"\xff"}, {"p", "\xff"}, {"caf\u00e9"}, {"p", "q", "r\n"},
			{strings.Repeat("n", api.MaxName+1)}, {"a", strings.Repeat("n", api.MaxName+1)},
		} {
			out = append(out, api.Action{Kind: k, Ports: l})
		}
	}
	return out
}

// P5.1, and P5.3's error of one rule

func TestWrongActions(t *testing.T) {
	for _, a := range wrongActions() {
		askNoAction(t, a)
	}
}

func TestWrongWidths(t *testing.T) {
	for _, width := range wrongWidths {
		askCheck(t, ruleOf(5, "10x", drop()), width, api.ErrArg)
		askCheck(t, ruleOf(5, "", drop()), width, api.ErrArg)
		askCheck(t, ruleOf(-5, "2", api.Action{}), width, api.ErrArg)
		askNoPrint(t, nil, width, 0, api.ErrArg)
		askNoPrint(t, []api.Rule{ruleOf(5, "10x", drop())}, width, 0, api.ErrArg)
		askFault(t, "", width, 0, 0, api.ErrArg)
		askFault(t, "rule 5 10x drop", width, 0, 0, api.ErrArg)
	}
	long := strings.Repeat("x", api.MaxBits+1)
	askCheck(t, ruleOf(5, long, drop()), api.MaxBits+1, api.ErrArg)
	askNoLine(t, ruleOf(5, long, drop()), api.ErrCube)
}

func TestWrongPriorities(t *testing.T) {
	for _, p := range wrongPriorities {
		r := ruleOf(p, "10x", drop())
		askCheck(t, r, 3, api.ErrArg)
		askNoLine(t, r, api.ErrArg)
		askNoPrint(t, []api.Rule{r}, 3, 0, api.ErrArg)
	}
}

func TestWrongMatches(t *testing.T) {
	for _, c := range noCubes() {
		r := ruleOf(5, c, drop())
		askCheck(t, r, 3, api.ErrCube)
		askCheck(t, r, min(max(len(c), 1), api.MaxBits), api.ErrCube)
		askNoLine(t, r, api.ErrCube)
		askNoPrint(t, []api.Rule{r}, 3, 0, api.ErrCube)
	}
	for _, c := range []string{"1", "10", "10x1", strings.Repeat("x", api.MaxBits)} {
		askCheck(t, ruleOf(5, c, drop()), 3, api.ErrWidth)
		askNoPrint(t, []api.Rule{ruleOf(5, c, drop())}, 3, 0, api.ErrWidth)
	}
	askCheck(t, ruleOf(5, "xx", drop()), 1, api.ErrWidth)
	askCheck(t, ruleOf(5, strings.Repeat("x", api.MaxBits-1), drop()), api.MaxBits, api.ErrWidth)
}

func TestWhichErrorOfARuleIsFirst(t *testing.T) {
	askCheck(t, ruleOf(-1, "2", api.Action{}), 3, api.ErrArg)
	askCheck(t, ruleOf(-1, "10", drop()), 3, api.ErrArg)
	askCheck(t, ruleOf(5, "2", api.Action{}), 3, api.ErrCube)
	askCheck(t, ruleOf(5, "102", drop()), 2, api.ErrCube)
	askCheck(t, ruleOf(5, "10", api.Action{}), 3, api.ErrWidth)
	askCheck(t, ruleOf(5, "10x", api.Action{}), 3, api.ErrAction)
	// A Match that is no cube has no width of its own: Line asks for that first.
	askNoLine(t, ruleOf(-1, "2", api.Action{}), api.ErrCube)
	askNoLine(t, ruleOf(-1, "", drop()), api.ErrCube)
	askNoLine(t, ruleOf(-1, "1", api.Action{}), api.ErrArg)
	askNoLine(t, ruleOf(5, "1", api.Action{}), api.ErrAction)
}

// P5.2

// What words tells of a text comes ahead of all that is wrong with its rules.
func TestFaultsOfWords(t *testing.T) {
	askFault(t, "rule 5 10x drop\nrule 5 1%x drop", 3, 2, 9, api.ErrByte)
	askFault(t, "drop\n\n %", 3, 3, 2, api.ErrByte)
	askFault(t, "rule 5 10x all(p;q)", 3, 1, 17, api.ErrByte)
	askFault(t, "rule 5 10x drop\r\n", 3, 1, 16, api.ErrByte)
	askFault(t, strings.Repeat(" ", api.MaxText+1), 3, 0, 0, api.ErrLong)
	askFault(t, "drop"+strings.Repeat("%", api.MaxText), 3, 0, 0, api.ErrLong)
	askParse(t, strings.Repeat(" ", api.MaxText), 3)
	askFault(t, "%", 0, 0, 0, api.ErrArg)
	askFault(t, strings.Repeat(" ", api.MaxText+1), 129, 0, 0, api.ErrArg)
}

// Each place of a line at which a word is wanting, with blanks and a remark behind it.
func TestWordsThatAreWanting(t *testing.T) {
	for s, want := range map[string]api.Errno{
		"rule":                 api.ErrNumber,
		"rule 5":               api.ErrCube,
		"rule 5 10x":           api.ErrAction,
		"rule 5 10x all":       api.ErrAction,
		"rule 5 10x any":       api.ErrAction,
		"rule 5 10x all(":      api.ErrName,
		"rule 5 10x any(":      api.ErrName,
		"rule 5 10x all(p":     api.ErrAction,
		"rule 5 10x any(port":  api.ErrAction,
		"rule 5 10x all(p,":    api.ErrName,
		"rule 5 10x all(p,q":   api.ErrAction,
		"rule 5 10x any(p,p,q": api.ErrAction,
	} {
		for _, behind := range []string{"", " ", " \t ", "# all", "  # ) drop\n", "\nrule 6 10x drop", "\n\n\n"} {
			askFault(t, s+behind, 3, 1, len(s)+1, want)
			askFault(t, "\n\t"+s+behind, 3, 2, len(s)+2, want)
			askFault(t, "rule 4 10x drop\n# x\n  "+s+behind, 3, 3, len(s)+3, want)
		}
	}
}

func TestFirstWords(t *testing.T) {
	for _, w := range []string{"drop", "Rule", "rules", "rul", "RULE", "5", "(", "->", "rule-", "-", "x"} {
		askFault(t, w, 3, 1, 1, api.ErrRule)
		askFault(t, "rule 5 10x drop\n\n  "+w+" 6 10x drop", 3, 3, 3, api.ErrRule)
	}
	askFault(t, "rule 5 10x drop\n10x drop", 3, 2, 1, api.ErrRule)
}

func TestWordsBehindTheAction(t *testing.T) {
	for _, w := range []string{"drop", "rule", "x", "5", "(", ")", ",", "->", "==", "-", "all(p)"} {
		for _, a := range []string{"drop", "deliver", "all(p)", "any(p,q)"} {
			askFault(t, "rule 5 10x "+a+" "+w, 3, 1, 13+len(a), api.ErrRule)
			askFault(t, "\n rule 5 10x "+a+"  "+w+" behind", 3, 2, 15+len(a), api.ErrRule)
		}
	}
	askFault(t, "rule 5 10x drop()", 3, 1, 16, api.ErrRule)
	askFault(t, "rule 5 10x deliver(p)", 3, 1, 19, api.ErrRule)
	askFault(t, "rule 5 10x all(p))", 3, 1, 18, api.ErrRule)
	askFault(t, "rule 5 10x all(p),", 3, 1, 18, api.ErrRule)
}

func TestPrioritiesThatAreNoNumbers(t *testing.T) {
	for _, w := range []string{"x", "-1", "05", "00", "2147483648", "99999999999999999999", "5x", "-", "10x", "(", "rule", "->"} {
		askFault(t, "rule "+w, 3, 1, 6, api.ErrNumber)
		askFault(t, "rule "+w+" 10x drop", 3, 1, 6, api.ErrNumber)
		askFault(t, "rule 5 10x drop\nrule   "+w+" 222 no", 3, 2, 8, api.ErrNumber)
	}
	askFault(t, "rule +5 10x drop", 3, 1, 6, api.ErrNumber)
}

func TestMatchesThatAreNone(t *testing.T) {
	for _, w := range []string{"1x2", "10X", "drop", "(", "all", "-", "1-0", "12", strings.Repeat("x", api.MaxBits+1)} {
		askFault(t, "rule 5 "+w, 3, 1, 8, api.ErrCube)
		askFault(t, "rule 5 "+w+" drop", 3, 1, 8, api.ErrCube)
		askFault(t, "rule 5 "+w+" no", 3, 1, 8, api.ErrCube)
	}
	for _, w := range []string{"1", "10", "10x1", strings.Repeat("x", api.MaxBits)} {
		askFault(t, "rule 5 "+w, 3, 1, 8, api.ErrWidth)
		askFault(t, "rule 5 "+w+" drop", 3, 1, 8, api.ErrWidth)
		askFault(t, "rule 5 "+w+" no", 3, 1, 8, api.ErrWidth)
	}
	askFault(t, "rule 5 xx drop", 1, 1, 8, api.ErrWidth)
	askFault(t, "rule 5 "+strings.Repeat("x", 127)+" drop", 128, 1, 8, api.ErrWidth)
}

func TestActionsThatDoNotGoOnSo(t *testing.T) {
	for _, w := range []string{"send", "Drop", "drops", "dro", "ALL", "5", "(", ")", "->", "10x", "rule", "-", "p"} {
		askFault(t, "rule 5 10x "+w, 3, 1, 12, api.ErrAction)
		askFault(t, "rule 5 10x "+w+"(p)", 3, 1, 12, api.ErrAction)
	}
	for _, kind := range []string{"all", "any"} {
		for _, w := range []string{"p", ")", ",", "5", "->", "all", "drop", "=="} {
			askFault(t, "rule 5 10x "+kind+" "+w, 3, 1, 16, api.ErrAction)
			askFault(t, "rule 5 10x "+kind+" "+w+"(p)", 3, 1, 16, api.ErrAction)
		}
		for _, w := range []string{")", ",", "(", "5", "-", "1p", "-p", "->", "==", "0", strings.Repeat("n", api.MaxName+1)} {
			askFault(t, "rule 5 10x "+kind+"( "+w, 3, 1, 17, api.ErrName)
			askFault(t, "rule 5 10x "+kind+"( "+w+")", 3, 1, 17, api.ErrName)
			askFault(t, "rule 5 10x "+kind+"(p, "+w+",q)", 3, 1, 19, api.ErrName)
		}
		for _, w := range []string{"q", "(", "p", "5", "->", "|", ".", "="} {
			askFault(t, "rule 5 10x "+kind+"(p "+w, 3, 1, 18, api.ErrAction)
			askFault(t, "rule 5 10x "+kind+"(p "+w+")", 3, 1, 18, api.ErrAction)
			askFault(t, "rule 5 10x "+kind+"(p,q "+w+")", 3, 1, 20, api.ErrAction)
		}
	}
}

func TestTooManyPorts(t *testing.T) {
	for _, n := range []int{api.MaxPorts + 1, 2 * api.MaxPorts, 10000} {
		l := strings.Join(ports(n), ",")
		s := "rule 5 10x any(" + l
		askFault(t, s+")", 3, 1, len(s)+1, api.ErrMany)
		// What stands to the right of the ) is no fault yet; what stands to the left of it is.
		askFault(t, s+") behind", 3, 1, len(s)+1, api.ErrMany)
		askFault(t, s+"  )\nno", 3, 1, len(s)+3, api.ErrMany)
		askFault(t, s+",5)", 3, 1, len(s)+2, api.ErrName)
		askFault(t, s+" q)", 3, 1, len(s)+2, api.ErrAction)
		askFault(t, s, 3, 1, len(s)+1, api.ErrAction)
		askFault(t, s+",", 3, 1, len(s)+2, api.ErrName)
		askFault(t, s+","+l+")", 3, 1, len(s)+2+len(l), api.ErrMany)
		// Also of a rule whose key is not new.
		askFault(t, "rule 5 10x drop\n"+s+")", 3, 2, len(s)+1, api.ErrMany)
	}
}

func TestKeysThatAreThere(t *testing.T) {
	askFault(t, "rule 5 10x drop\nrule 5 10x drop", 3, 2, 1, api.ErrSame)
	askFault(t, "rule 5 10x drop\nrule 5 10x all(p)", 3, 2, 1, api.ErrSame)
	askFault(t, "rule 5 10x drop\nrule 4 10x drop\nrule 5 xxx drop\n\n \trule 5 10x deliver # again", 3, 5, 3, api.ErrSame)
	askFault(t, "rule 5 10x drop\nrule 6 10x drop\nrule 6 10x drop\nrule 5 10x drop", 3, 3, 1, api.ErrSame)
}

// A line's own faults are ahead of its key, and an earlier line's key ahead of a later one's faults.
func TestWhichFaultIsFirst(t *testing.T) {
	askFault(t, "rule 5 10x drop\nrule 5 10x drop behind", 3, 2, 17, api.ErrRule)
	askFault(t, "rule 5 10x drop\nrule 5 10x send", 3, 2, 12, api.ErrAction)
	askFault(t, "rule 5 10x drop\nrule 5 10x all(", 3, 2, 16, api.ErrName)
	askFault(t, "rule 5 10x drop\nrule 5 10x drop\nno", 3, 2, 1, api.ErrSame)
	askFault(t, "rule 5 10x drop\nno\nrule 5 10x drop", 3, 2, 1, api.ErrRule)
	askFault(t, "rule x 1x2 send behind", 3, 1, 6, api.ErrNumber)
	askFault(t, "rule 5 1x2 send behind", 3, 1, 8, api.ErrCube)
	askFault(t, "rule 5 1x send behind", 3, 1, 8, api.ErrWidth)
	askFault(t, "rule 5 10x send behind", 3, 1, 12, api.ErrAction)
	askFault(t, "no x 1x2 send behind", 3, 1, 1, api.ErrRule)
	askFault(t, "rule 5 10x all(5 6", 3, 1, 16, api.ErrName)
}

func TestTooManyRules(t *testing.T) {
	s := manyLines(api.MaxRules)
	askFault(t, s+"rule 5000 x drop", 1, 4097, 1, api.ErrMany)
	askFault(t, s+"\n  rule 5000 x drop # one more\nno", 1, 4098, 3, api.ErrMany)
	askFault(t, "\n"+s+"rule 5000 x drop\nrule 5001 x drop", 1, 4098, 1, api.ErrMany)
	// A fault in the line, then its key, is ahead of that there are too many.
	askFault(t, s+"rule 1 x drop", 1, 4097, 1, api.ErrSame)
	askFault(t, s+"rule 5000 x drop all", 1, 4097, 18, api.ErrRule)
	askFault(t, s+"rule 5000 xx drop", 1, 4097, 11, api.ErrWidth)
	askFault(t, s+"no", 1, 4097, 1, api.ErrRule)
	// Lines that have no words are none.
	askParse(t, s+"\n# rule\n \n", 1, manyRules(api.MaxRules)...)
}

// P5.3

func TestTooManyRulesToPrint(t *testing.T) {
	askNoPrint(t, manyRules(api.MaxRules+1), 1, 0, api.ErrMany)
	askNoPrint(t, manyRules(3*api.MaxRules), 1, 0, api.ErrMany)
	// Ahead of what is wrong with one of them, and behind a width that may not be.
	askNoPrint(t, make([]api.Rule, api.MaxRules+1), 1, 0, api.ErrMany)
	askNoPrint(t, make([]api.Rule, api.MaxRules+1), 0, 0, api.ErrArg)
	askNoPrint(t, make([]api.Rule, api.MaxRules), 1, 0, api.ErrCube)
}

func TestNumbersOfWrongRules(t *testing.T) {
	for _, n := range []int{0, 1, 7, api.MaxRules - 1} {
		for want, r := range map[api.Errno]api.Rule{
			api.ErrArg:    ruleOf(-1, "x", drop()),
			api.ErrCube:   ruleOf(9, "2", drop()),
			api.ErrWidth:  ruleOf(9, "xx", drop()),
			api.ErrAction: ruleOf(9, "x", all()),
		} {
			l := manyRules(api.MaxRules)
			l[n] = r
			askNoPrint(t, l, 1, n, want)
			l[api.MaxRules-1] = api.Rule{Priority: -9}
			if n < api.MaxRules-1 {
				askNoPrint(t, l, 1, n, want)
			}
		}
	}
}

func TestNumbersOfAlikeKeys(t *testing.T) {
	a, b, c := ruleOf(5, "0", drop()), ruleOf(5, "1", drop()), ruleOf(4, "0", drop())
	other := ruleOf(5, "0", all("p"))
	askNoPrint(t, []api.Rule{a, a}, 1, 1, api.ErrSame)
	askNoPrint(t, []api.Rule{a, other}, 1, 1, api.ErrSame)
	askNoPrint(t, []api.Rule{a, b, c, other}, 1, 3, api.ErrSame)
	askNoPrint(t, []api.Rule{a, b, b, a}, 1, 2, api.ErrSame)
	askNoPrint(t, []api.Rule{c, a, b, a, b, c}, 1, 3, api.ErrSame)
	l := manyRules(api.MaxRules)
	l[api.MaxRules-1].Priority = 0
	askNoPrint(t, l, 1, api.MaxRules-1, api.ErrSame)
	// A rule that may not be is named first, wherever it stands.
	no := ruleOf(5, "2", drop())
	askNoPrint(t, []api.Rule{a, no, a}, 1, 1, api.ErrCube)
	askNoPrint(t, []api.Rule{a, a, no}, 1, 2, api.ErrCube)
	askNoPrint(t, []api.Rule{no, no}, 1, 0, api.ErrCube)
}

// Rule 4: nothing that is handed in is changed, also behind the ends of lists.

func TestNothingIsChanged(t *testing.T) {
	names := []string{"p", "q", "r", "behind"}
	whole := []api.Rule{ruleOf(1, "x", all(names[:3]...)), ruleOf(5, "1", anyOf(names[1:2]...)), ruleOf(5, "0", drop()), ruleOf(9, "behind", drop())}
	l := whole[:3]
	before := told(whole)
	rules.Order(l)
	rules.Print(l, 1)
	rules.Print(l, 2)
	rules.Check(l[0], 1)
	rules.Line(l[0])
	rules.Action(l[0].Action)
	rules.Ahead(l[0], l[1])
	same(t, "the rules", told(whole), before)
	same(t, "the ports", strings.Join(names, " "), "p q r behind")
	turned := []string{"q", "p", "p"}
	rules.Action(all(turned...))
	rules.Line(ruleOf(1, "x", all(turned...)))
	rules.Order([]api.Rule{ruleOf(1, "x", all(turned...))})
	same(t, "ports that do not rise", strings.Join(turned, " "), "q p p")
}

// What is told is new memory: it may be spoilt, and grow, without a trace elsewhere.
func TestNewMemoryOfOrder(t *testing.T) {
	l := []api.Rule{ruleOf(5, "1", all("p", "q")), ruleOf(5, "1", anyOf("p", "q")), ruleOf(9, "0", all("r"))}
	before := told(l)
	first := rules.Order(l)
	want := told(first)
	second := rules.Order(l)
	spoil(t, first)
	same(t, "what was handed in", told(l), before)
	same(t, "another answer", told(second), want)
	same(t, "the next answer", told(rules.Order(l)), want)
	// An ordered list is copied, too.
	one := []api.Rule{ruleOf(5, "1", all("p"))}
	spoil(t, rules.Order(one))
	same(t, "one that is in order", told(one), told([]api.Rule{ruleOf(5, "1", all("p"))}))
}

func TestNewMemoryOfParse(t *testing.T) {
	const text = "rule 5 1 all(q,p,q)\nrule 4 1 any(p,q)\nrule 9 0 all(r,r,r)"
	first, _, _, _ := rules.Parse(text, 1)
	want := told(first)
	second, _, _, _ := rules.Parse(text, 1)
	spoil(t, first)
	same(t, "another answer", told(second), want)
	third, _, _, _ := rules.Parse(text, 1)
	same(t, "the next answer", told(third), want)
}

// spoil lets each list of ports grow, which must not be seen in the others, and writes over all of them.
func spoil(t *testing.T, l []api.Rule) {
	t.Helper()
	want := told(l)
	for _, r := range l {
		_ = append(r.Action.Ports, "behind", "it")
		same(t, "rules behind ports that have grown", told(l), want)
	}
	for i := range l {
		for j := range l[i].Action.Ports {
			l[i].Action.Ports[j] = "spoilt"
		}
		l[i] = api.Rule{Match: "spoilt"}
	}
}

// lies tells whether a text's first byte is one of another's, in memory.
func lies(part, whole string) bool {
	at, from := uintptr(unsafe.Pointer(unsafe.StringData(part))), uintptr(unsafe.Pointer(unsafe.StringData(whole)))
	return from <= at && at < from+uintptr(len(whole))
}

// textsOf are all texts in a rule.
func textsOf(r api.Rule) []string { return append(slices.Clone(r.Action.Ports), r.Match) }

// No text that is told is a piece of one that was handed in.
func TestTextsAreNewMemory(t *testing.T) {
	given := strings.Clone("rule 5 10x any(port1,port2)\n")
	l, _, _, _ := rules.Parse(given, 3)
	for _, s := range textsOf(l[0]) {
		same(t, "a piece of the text: "+s, lies(s, given), false)
	}
	for i, s := range textsOf(rules.Order(l)[0]) {
		same(t, "the rule's own text: "+s, lies(s, textsOf(l[0])[i]), false)
	}
	for kind := api.Drop; kind <= api.Deliver; kind++ {
		a, _ := rules.Action(api.Action{Kind: kind})
		b, _ := rules.Action(api.Action{Kind: kind})
		same(t, "one text for two answers", lies(a, b), false)
	}
}

// A refused call leaves no trace in the next one.
func TestAfterErrors(t *testing.T) {
	askFault(t, "rule 5 10x drop\nrule 6 1x2 drop", 3, 2, 8, api.ErrCube)
	askParse(t, "rule 5 10x drop", 3, ruleOf(5, "10x", drop()))
	askFault(t, "rule 5 10x drop\nrule 5 10x drop", 3, 2, 1, api.ErrSame)
	askParse(t, "rule 5 10x drop", 3, ruleOf(5, "10x", drop()))
	r := ruleOf(5, "10x", drop())
	askNoPrint(t, []api.Rule{r, r}, 3, 1, api.ErrSame)
	askPrint(t, []api.Rule{r}, 3, "rule 5 10x drop\n")
}

// Rule 1: texts of any bytes, of which some are cut in two.
func TestAnyTexts(t *testing.T) {
	const whole = "rule 5 10x any(p2,p1)\nrule 7 xxx drop # all\n"
	for i := range len(whole) + 1 {
		for b := range 256 {
			s := whole[:i] + string([]byte{byte(b)})
			for _, text := range []string{s, s + whole[i:], s + whole[min(i+1, len(whole)):]} {
				l, line, col, e := rules.Parse(text, 3)
				ok := e == api.OK && line == 0 && col == 0 || e != api.OK && len(l) == 0 && 1 <= line && line <= 4 && 1 <= col && col <= len(text)+1
				same(t, fmt.Sprintf("Parse(%q) answers in its form", text), ok, true)
			}
		}
	}
}
