package rules_test

import (
	"fmt"
	"regexp"
	"slices"
	"strings"
	"testing"

	"milestone/api"
	"milestone/rules"
)

// A line's words, a byte for each: rule, a number, a cube of two bits (w: of another width), drop, all, the signs, a name; o: a word that is none of these.
var (
	wholeLine = regexp.MustCompile(`^rnc(d|a\(p(,p)*\))$`)
	beginning = regexp.MustCompile(`^(r(n(c(d|a(\((p(,p)*(,|\))?)?)?)?)?)?)?$`)
)

// someWords are words, and as what each of them may be read.
var someWords = []struct{ text, as string }{
	{"rule", "rp"}, {"7", "n"}, {"10", "nc"}, {"0", "nw"}, {"xx", "cp"}, {"drop", "dp"}, {"all", "ap"}, {"(", "("}, {",", ","}, {")", ")"}, {"-", "o"},
}

// errorBehind is what is wrong where a line's words are these so far, and the next one (by its readings; empty: it is wanting) does not go on so.
func errorBehind(sofar, next string) api.Errno {
	goesOn := func(with string) bool { return beginning.MatchString(sofar + with) }
	switch {
	case goesOn("r"):
		return api.ErrRule
	case goesOn("n"):
		return api.ErrNumber
	case goesOn("c") && strings.Contains(next, "w"):
		return api.ErrWidth
	case goesOn("c"):
		return api.ErrCube
	case goesOn("d"), goesOn("("), goesOn(")"):
		return api.ErrAction
	case goesOn("p"):
		return api.ErrName
	}
	return api.ErrRule
}

// lineByWords is the number of the first word of a line that is wrong (that of its words: one is wanting), and what is wrong, as the document says it.
func lineByWords(row []int) (int, api.Errno) {
	sofar := ""
	for i, n := range row {
		as := someWords[n].as
		at := strings.IndexFunc(as, func(r rune) bool { return beginning.MatchString(sofar + string(r)) })
		if at < 0 {
			return i, errorBehind(sofar, as)
		}
		sofar += as[at : at+1]
	}
	if wholeLine.MatchString(sofar) {
		return 0, api.OK
	}
	return len(row), errorBehind(sofar, "")
}

// eachRow goes through all rows of so many numbers below another one that begin with some.
func eachRow(begin []int, length, below int, do func(row []int)) {
	if len(begin) == length {
		do(begin)
		return
	}
	for n := range below {
		eachRow(append(slices.Clone(begin), n), length, below, do)
	}
}

// askLineByWords asks Parse of the text of a row.
func askLineByWords(t *testing.T, row []int) {
	t.Helper()
	var texts []string
	for _, n := range row {
		texts = append(texts, someWords[n].text)
	}
	s := strings.Join(texts, " ")
	number, want := lineByWords(row)
	col, line := len(strings.Join(texts[:number], " "))+2, 1
	if number == 0 || number == len(row) {
		col--
	}
	if want == api.OK {
		col, line = 0, 0
	}
	l, gotLine, gotCol, e := rules.Parse(s, 2)
	if gotLine != line || gotCol != col || e != want || (len(l) == 1) != (want == api.OK) {
		t.Fatalf("Parse(%q) = %v at %d, %d: %v, want %v at %d, %d", s, l, gotLine, gotCol, e, want, line, col)
	}
}

// P5.2, of all lines of few words.
func TestShortLinesByWords(t *testing.T) {
	for length := 1; length <= 5; length++ {
		eachRow(nil, length, len(someWords), func(row []int) { askLineByWords(t, row) })
	}
}

// P5.2, of all lines that begin as a rule with ports does.
func TestLongerLinesByWords(t *testing.T) {
	for length := 6; length <= 9; length++ {
		eachRow([]int{0, 1, 2, 6, 7}, length, len(someWords), func(row []int) { askLineByWords(t, row) })
	}
	eachRow([]int{0, 1, 2, 6, 7, 4, 8, 5}, 12, len(someWords), func(row []int) { askLineByWords(t, row) })
}

// someLines are lines, each with what it is alone, at its column.
var someLines = []struct {
	text string
	rule api.Rule
	col  int
	err  api.Errno
}{
	{text: "rule 1 0 drop", rule: ruleOf(1, "0", drop())},
	{text: "  rule 1 0 any(q,p,q)", rule: ruleOf(1, "0", anyOf("p", "q"))},
	{text: "rule 2 x all(r) # r", rule: ruleOf(2, "x", all("r"))},
	{text: "\trule 1 x deliver", rule: ruleOf(1, "x", deliver())},
	{text: "rule 1 0 no", col: 10, err: api.ErrAction},
	{text: " rule", col: 6, err: api.ErrNumber},
	{text: "# none"},
}

// textByWords is Parse of some of these lines, as the document says it.
func textByWords(row []int) (l []api.Rule, line, col int, e api.Errno) {
	for i, n := range row {
		s := someLines[n]
		if s.err != api.OK {
			return nil, i + 1, s.col, s.err
		}
		if s.rule.Match == "" {
			continue
		}
		for _, r := range l {
			if r.Priority == s.rule.Priority && r.Match == s.rule.Match {
				return nil, i + 1, strings.Index(s.text, "rule") + 1, api.ErrSame
			}
		}
		l = append(l, s.rule)
	}
	return l, 0, 0, api.OK
}

// P5.2, of all short texts.
func TestTextsByWords(t *testing.T) {
	for length := range 6 {
		eachRow(nil, length, len(someLines), func(row []int) {
			var texts []string
			for _, n := range row {
				texts = append(texts, someLines[n].text)
			}
			s := strings.Join(texts, "\n")
			want, wantLine, wantCol, wantE := textByWords(row)
			for _, text := range []string{s, s + "\n"} {
				l, line, col, e := rules.Parse(text, 1)
				if told(l) != told(want) || line != wantLine || col != wantCol || e != wantE {
					t.Fatalf("Parse(%q) = %s at %d, %d: %v, want %s at %d, %d: %v", text, told(l), line, col, e, told(want), wantLine, wantCol, wantE)
				}
			}
		})
	}
}

// someRules are rules of one bit, some of alike keys, some that may not be.
var someRules = []api.Rule{
	ruleOf(1, "0", drop()), ruleOf(1, "0", all("p")), ruleOf(1, "x", deliver()), ruleOf(2, "1", anyOf("p", "q")), ruleOf(2, "0", drop()),
	ruleOf(-1, "0", drop()), ruleOf(1, "00", drop()), ruleOf(1, "", drop()), ruleOf(1, "1", all()),
}

// mayBe is how many of someRules may be: those first.
const mayBe = 5

// eachList goes through all lists of at most so many rules of someRules.
func eachList(most, below int, do func(l []api.Rule)) {
	for length := range most + 1 {
		eachRow(nil, length, below, func(row []int) {
			var l []api.Rule
			for _, n := range row {
				l = append(l, someRules[n])
			}
			do(l)
		})
	}
}

// printByWords is Print, as the document says it.
func printByWords(l []api.Rule) (string, int, api.Errno) {
	for i, r := range l {
		if e := rules.Check(r, 1); e != api.OK {
			return "", i, e
		}
	}
	text := ""
	for i, r := range l {
		for _, earlier := range l[:i] {
			if earlier.Priority == r.Priority && earlier.Match == r.Match {
				return "", i, api.ErrSame
			}
		}
		line, _ := rules.Line(r)
		text += line + "\n"
	}
	return text, 0, api.OK
}

// P5.3, of all short lists.
func TestPrintByWords(t *testing.T) {
	eachList(4, len(someRules), func(l []api.Rule) {
		s, at, e := rules.Print(l, 1)
		wantS, wantAt, wantE := printByWords(l)
		if s != wantS || at != wantAt || e != wantE {
			t.Fatalf("Print(%s) = %q, %d, %v, want %q, %d, %v", told(l), s, at, e, wantS, wantAt, wantE)
		}
	})
}

// P5.5

func TestThereAndBack(t *testing.T) {
	eachList(4, mayBe, func(l []api.Rule) {
		s, _, e := rules.Print(l, 1)
		if e != api.OK {
			return
		}
		back, line, col, e := rules.Parse(s, 1)
		if told(back) != told(l) || line != 0 || col != 0 || e != api.OK {
			t.Fatalf("Parse of %q = %s at %d, %d: %v, want %s", s, told(back), line, col, e, told(l))
		}
	})
}

func TestThereAndBackOfEdges(t *testing.T) {
	wide := strings.Repeat("10x-"[:3], 42) + "10"
	var l []api.Rule
	for i, p := range []int{0, 1, api.MaxPrio - 1, api.MaxPrio} {
		l = append(l, ruleOf(p, wide, all(ports(16*(i+1))...)), ruleOf(p, strings.Repeat("x", api.MaxBits), anyOf(strings.Repeat("n", api.MaxName))),
			ruleOf(p, strings.Repeat("0", api.MaxBits), drop()), ruleOf(p, strings.Repeat("1", api.MaxBits), deliver()))
	}
	s, _, e := rules.Print(l, api.MaxBits)
	same(t, "Print's error", e, api.OK)
	askParse(t, s, api.MaxBits, l...)
}

// What is read and printed reads as the same, however it was written.
func TestPrintOfParse(t *testing.T) {
	l, _, _, e := rules.Parse(" rule 5 10x any( p2,p1 ,p1 )\n\n# none\nrule 7 xxx drop # all", 3)
	same(t, "Parse's error", e, api.OK)
	askPrint(t, l, 3, "rule 5 10x any(p1,p2)\nrule 7 xxx drop\n")
}

// A rule's line is what Print has of it, and its end what Action says.
func TestLineIsItsWords(t *testing.T) {
	for _, r := range someRules[:mayBe] {
		line, _ := rules.Line(r)
		action, _ := rules.Action(r.Action)
		same(t, "Line", line, fmt.Sprintf("rule %d %s %s", r.Priority, r.Match, action))
		askPrint(t, []api.Rule{r}, 1, line+"\n")
	}
}

// aheadByWords is Ahead, as the document says it.
func aheadByWords(a, b api.Rule) bool {
	return a.Priority > b.Priority || a.Priority == b.Priority && slices.Compare([]byte(a.Match), []byte(b.Match)) < 0
}

// P5.4

func TestAheadByWords(t *testing.T) {
	for _, a := range someRules {
		for _, b := range someRules {
			same(t, fmt.Sprintf("Ahead(%v, %v)", a, b), rules.Ahead(a, b), aheadByWords(a, b))
		}
	}
}

// orderByWords is Order: each rule is put in behind the last one of which it does not stand ahead.
func orderByWords(l []api.Rule) []api.Rule {
	var out []api.Rule
	for _, r := range l {
		at := len(out)
		for at > 0 && aheadByWords(r, out[at-1]) {
			at--
		}
		out = slices.Insert(out, at, r)
	}
	return out
}

func TestOrderByWords(t *testing.T) {
	eachList(5, len(someRules), func(l []api.Rule) {
		if got, want := told(rules.Order(l)), told(orderByWords(l)); got != want {
			t.Fatalf("Order(%s) = %s, want %s", told(l), got, want)
		}
	})
}

// P5.6

func TestOrderOfOrder(t *testing.T) {
	eachList(4, len(someRules), func(l []api.Rule) {
		once := rules.Order(l)
		if got := told(rules.Order(once)); got != told(once) {
			t.Fatalf("Order(%s) = %s", told(once), got)
		}
	})
}

// eachTurn goes through all orders of a list.
func eachTurn(l []api.Rule, do func(l []api.Rule)) {
	var turn func(n int)
	turn = func(n int) {
		if n == len(l) {
			do(l)
			return
		}
		for i := n; i < len(l); i++ {
			l[n], l[i] = l[i], l[n]
			turn(n + 1)
			l[n], l[i] = l[i], l[n]
		}
	}
	turn(0)
}

func TestOrderHangsOnNoOrder(t *testing.T) {
	l := []api.Rule{ruleOf(9, "x0", drop()), ruleOf(9, "xx", all("p")), ruleOf(10, "11", drop()), ruleOf(0, "00", anyOf("p", "q")), ruleOf(5, "0x", drop()), ruleOf(5, "01", deliver())}
	want := told(rules.Order(l))
	eachTurn(slices.Clone(l), func(turned []api.Rule) {
		if got := told(rules.Order(turned)); got != want {
			t.Fatalf("Order(%s) = %s, want %s", told(turned), got, want)
		}
	})
}

// The same arguments are always answered alike.
func TestAgain(t *testing.T) {
	for _, s := range []string{"", "rule 5 0 any(q,p)\nrule 6 x drop", "rule 5 0 drop\nrule 5 0 drop", "rule 5 2"} {
		first, line, col, e := rules.Parse(s, 1)
		for range 3 {
			l, againLine, againCol, againE := rules.Parse(s, 1)
			same(t, fmt.Sprintf("Parse(%q) again", s), fmt.Sprint(told(l), againLine, againCol, againE), fmt.Sprint(told(first), line, col, e))
		}
	}
}
