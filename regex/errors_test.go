package regex_test

import (
	"math"
	"slices"
	"strings"
	"testing"
	"unsafe"

	"milestone/api"
	"milestone/regex"
)

// notNames are texts that are none.
var notNames = []string{"", "9", "9a", "-", "-a", "a b", " a", "a ", "a.", "$a", "(", ")", "|", "*", "\x00", "a\n", "caf\u00e9", "a\xff", strings.Repeat("a", api.MaxName+1)}

// P9.1

// askNotOne asks that an expression may not be, alone and wherever it stands in another one.
func askNotOne(t *testing.T, r api.Regex) {
	t.Helper()
	for _, x := range []api.Regex{
		r, star(r), plus(r), opt(r), alt(star(r), a), seq(a, star(r)), star(seq(a, alt(b, star(r)))), seq(a, alt(star(r), b), c),
	} {
		askCheck(t, x, api.ErrRegex)
	}
}

func TestNoNames(t *testing.T) {
	for _, name := range notNames {
		askNotOne(t, device(name))
		askNotOne(t, class(name))
	}
}

func TestNameThatMayNotBe(t *testing.T) {
	for _, r := range []api.Regex{anyOne(), seq(), seq(a, b), alt(a, b), star(a), plus(a), opt(a)} {
		for _, name := range []string{"a", "9", " ", "\x00"} {
			r.Name = name
			askNotOne(t, r)
		}
	}
}

func TestKidsThatMayNotBe(t *testing.T) {
	for n := range 5 {
		kids := slices.Repeat([]api.Regex{a}, n)
		for op, may := range map[api.RegexOp]bool{
			api.RDevice: n == 0, api.RClass: n == 0, api.RAny: n == 0, api.RSeq: n != 1, api.RAlt: n > 1, api.RStar: n == 1, api.RPlus: n == 1, api.ROpt: n == 1,
		} {
			r := api.Regex{Op: op, Kids: kids}
			if op <= api.RClass {
				r.Name = "a"
			}
			if may {
				askCheck(t, r, api.OK)
			} else {
				askNotOne(t, r)
			}
		}
	}
}

func TestOwnKindAsKid(t *testing.T) {
	for _, r := range []api.Regex{
		seq(seq(a, b), c), seq(a, seq(b, c)), seq(a, seq()), seq(seq(), a), seq(seq(), seq()), seq(a, b, seq(a, b), c),
		alt(alt(a, b), c), alt(a, alt(b, c)), alt(a, b, alt(a, b), c),
	} {
		askNotOne(t, r)
	}
}

func TestNoKind(t *testing.T) {
	for _, op := range []api.RegexOp{0, 9, 10, -1, -8, 1 << 8, 1<<32 + 1, math.MaxInt, math.MinInt} {
		for n := range 4 {
			for _, name := range []string{"", "a"} {
				askNotOne(t, api.Regex{Op: op, Name: name, Kids: slices.Repeat([]api.Regex{a}, n)})
			}
		}
	}
	askNotOne(t, api.Regex{})
}

func TestFirstErrorFirst(t *testing.T) {
	bad := api.Regex{Op: 9}
	deep := func(r api.Regex, n int) api.Regex {
		for range n {
			r = star(r)
		}
		return r
	}
	askCheck(t, deep(bad, api.MaxDeep-1), api.ErrRegex)
	askCheck(t, deep(bad, api.MaxDeep), api.ErrDeep)
	askCheck(t, deep(seq(a), api.MaxDeep-2), api.ErrRegex)
	askCheck(t, deep(seq(a), api.MaxDeep-1), api.ErrDeep)
	askCheck(t, seq(deep(a, api.MaxDeep), bad), api.ErrDeep)
	askCheck(t, seq(bad, deep(a, api.MaxDeep)), api.ErrDeep)
	askCheck(t, wide(9, api.MaxRegex-1), api.ErrRegex)
	askCheck(t, wide(9, api.MaxRegex), api.ErrMany)
	askCheck(t, deep(a, api.MaxRegex-1), api.ErrDeep)
	askCheck(t, deep(a, api.MaxRegex), api.ErrMany)
	askCheck(t, deep(bad, api.MaxRegex), api.ErrMany)
	askCheck(t, seq(deep(a, api.MaxDeep), wide(api.RAlt, api.MaxRegex)), api.ErrMany)
	askCheck(t, wide(api.RSeq, 100000), api.ErrMany)
	askCheck(t, chain(1001), api.ErrMany)
	askCheck(t, chain(2000), api.ErrMany)
}

// Expressions that no tree is: lists that lie in themselves, and lists that many nodes share.

// inItself is an expression of a kind whose Kids it is all itself.
func inItself(op api.RegexOp, kids int) api.Regex {
	r := api.Regex{Op: op, Kids: make([]api.Regex, kids)}
	for i := range r.Kids {
		r.Kids[i] = r
	}
	return r
}

// shared is one with two Kids that are one list, so many times; its last Kids are r.
func shared(levels int, r api.Regex) api.Regex {
	for i := range levels {
		r = api.Regex{Op: api.RSeq + api.RegexOp(i%2), Kids: []api.Regex{r, r}}
	}
	return r
}

func TestExpressionsWithoutEnd(t *testing.T) {
	for _, r := range []api.Regex{inItself(api.RStar, 1), inItself(api.RSeq, 2), inItself(9, 3), shared(60, a), seq(a, shared(30, b)), star(inItself(api.RAlt, 2))} {
		askSize(t, r, 0, 0)
		same(t, "Check", regex.Check(r), api.ErrMany)
		s, e := regex.Print(r)
		same(t, "Print's error", e, api.ErrMany)
		same(t, "Print", s, "")
		ok, e := regex.Match(r, who("a"))
		same(t, "Match's error", e, api.ErrMany)
		same(t, "Match", ok, false)
		devices, classes, e := regex.Names(r)
		same(t, "Names' error", e, api.ErrMany)
		same(t, "Names", len(devices)+len(classes), 0)
	}
	askSize(t, shared(15, a), 65535, 16)
	askSize(t, shared(16, a), 0, 0)
	askCheck(t, shared(8, a), api.OK)
	askCheck(t, shared(9, a), api.ErrMany)
}

// P9.2, P9.3

func TestNoWords(t *testing.T) {
	r, at, e := regex.Read()
	same(t, "Read of no words", isZero(r) && at == 0 && e == api.ErrSyntax, true)
	r, at, e = regex.Read([]api.Word{}...)
	same(t, "Read of no words", isZero(r) && at == 0 && e == api.ErrSyntax, true)
	for _, s := range []string{"", " ", "\n", "\n\n  \n", "# a", "\t#\n\n #b"} {
		askFault(t, s, 1, 1, api.ErrSyntax)
	}
}

func TestEndsTooEarly(t *testing.T) {
	askNoRead(t, "a |", 2, api.ErrSyntax)
	askNoRead(t, "$", 1, api.ErrSyntax)
	askNoRead(t, "a $", 2, api.ErrSyntax)
	askNoRead(t, "(", 1, api.ErrSyntax)
	askNoRead(t, "( a", 2, api.ErrSyntax)
	askNoRead(t, "( a |", 3, api.ErrSyntax)
	askNoRead(t, "( a *", 3, api.ErrSyntax)
	askNoRead(t, "( ( a )", 4, api.ErrSyntax)
	askNoRead(t, "( ( )", 3, api.ErrSyntax)
	askNoRead(t, "a b | ( c", 5, api.ErrSyntax)
	askNoRead(t, "a b ( $", 4, api.ErrSyntax)
	askNoRead(t, strings.Repeat("( ", 50), 50, api.ErrSyntax)
}

// Of one expression each beginning, by words: those that are none end too early.
func TestEachBeginning(t *testing.T) {
	l := strings.Fields("a | $ core ( b . * | ( ) + ) ? | ( c ( a | $ b ) )")
	for n := range len(l) {
		at, want := faultByWords(l[:n])
		if want == api.OK {
			askRead(t, strings.Join(l[:n], " "), treeByWords(l[:n]))
			continue
		}
		same(t, "the fault", at, n)
		askNoRead(t, strings.Join(l[:n], " "), n, api.ErrSyntax)
	}
}

func TestParenthesesThatCloseNothing(t *testing.T) {
	askNoRead(t, ")", 0, api.ErrSyntax)
	askNoRead(t, "a )", 1, api.ErrSyntax)
	askNoRead(t, "( ) )", 2, api.ErrSyntax)
	askNoRead(t, "( a ) )", 3, api.ErrSyntax)
	askNoRead(t, "a ) ( b", 1, api.ErrSyntax)
	askNoRead(t, "a * ) b", 2, api.ErrSyntax)
}

func TestSignsWithNothingAhead(t *testing.T) {
	for _, sign := range []string{"|", "*", "+", "?"} {
		askNoRead(t, sign, 0, api.ErrSyntax)
		askNoRead(t, sign+" a", 0, api.ErrSyntax)
		askNoRead(t, "( "+sign+" a )", 1, api.ErrSyntax)
		askNoRead(t, "a | "+sign+" b", 2, api.ErrSyntax)
		askNoRead(t, "a ( "+sign, 2, api.ErrSyntax)
		askNoRead(t, "$ "+sign, 1, api.ErrSyntax)
		askNoRead(t, "a $ "+sign+" b", 2, api.ErrSyntax)
	}
}

func TestSignsWithNothingBehind(t *testing.T) {
	askNoRead(t, "( a | )", 3, api.ErrSyntax)
	askNoRead(t, "( | )", 1, api.ErrSyntax)
	askNoRead(t, "a | )", 2, api.ErrSyntax)
	askNoRead(t, "a ( b | ) c", 4, api.ErrSyntax)
	askNoRead(t, "a | | b", 2, api.ErrSyntax)
	askNoRead(t, "( $ )", 2, api.ErrSyntax)
}

func TestDollarWithoutName(t *testing.T) {
	for _, w := range []string{"$", ".", "(", ")", "|", "*", "+", "?", ",", "=", "==", "->", "9", "-", "9a", strings.Repeat("a", api.MaxName+1)} {
		askNoRead(t, "$ "+w, 1, api.ErrSyntax)
		askNoRead(t, "a ( $ "+w+" b )", 3, api.ErrSyntax)
	}
}

// Words that no expression has.
func TestOtherWords(t *testing.T) {
	for _, w := range []string{",", "=", "<", ">", "==", "<=", ">=", "->", "9", "0", "2147483648", "-", "--", "-a", "9a", strings.Repeat("a", api.MaxName+1)} {
		askNoRead(t, w, 0, api.ErrSyntax)
		askNoRead(t, w+" a", 0, api.ErrSyntax)
		askNoRead(t, "a "+w, 1, api.ErrSyntax)
		askNoRead(t, "a "+w+" b", 1, api.ErrSyntax)
		askNoRead(t, "a | "+w, 2, api.ErrSyntax)
		askNoRead(t, "( "+w+" )", 1, api.ErrSyntax)
		askNoRead(t, "( a "+w+" )", 2, api.ErrSyntax)
		askNoRead(t, "a * "+w, 2, api.ErrSyntax)
	}
}

// Words that no text has are handed in by hand.
func TestWordsThatAreNone(t *testing.T) {
	for _, w := range append([]string{"()", "a*", "((", "||", "**", ".*", "$$", "#", "%", "\n"}, notNames...) {
		if strings.Contains("()|*", w) && w != "" {
			continue
		}
		for _, l := range [][]string{{w}, {"a", w}, {"a", w, "b"}, {"(", w, ")"}, {"a", "|", w}, {"$", w}, {"a", "*", w}} {
			number := slices.Index(l, w)
			r, at, e := regex.Read(wordsOf(l...)...)
			if !isZero(r) || at != number || e != api.ErrSyntax {
				t.Errorf("Read(%q) = %s, %d, %v, want ErrSyntax with %d", l, told(r), at, e, number)
			}
		}
	}
}

// Where words stand plays no part in Read.
func TestReadWithoutPlaces(t *testing.T) {
	r, at, e := regex.Read(api.Word{Text: "a"}, api.Word{Text: "|", Line: -1, Col: math.MaxInt}, api.Word{Text: "b", Line: math.MinInt})
	same(t, "Read", told(r), told(alt(a, b)))
	same(t, "Read's error", at == 0 && e == api.OK, true)
	_, at, e = regex.Read(api.Word{Text: "a", Line: 7, Col: 9}, api.Word{Text: ")", Line: 7, Col: 9})
	same(t, "Read's fault", at == 1 && e == api.ErrSyntax, true)
}

func TestPlaces(t *testing.T) {
	askFault(t, "a)", 1, 2, api.ErrSyntax)
	askFault(t, "  )", 1, 3, api.ErrSyntax)
	askFault(t, "(a\n|", 2, 2, api.ErrSyntax)
	askFault(t, "(a\n|\n", 2, 2, api.ErrSyntax)
	askFault(t, "(a\n| # b)\n\n", 2, 2, api.ErrSyntax)
	askFault(t, "a |  \t # b", 1, 4, api.ErrSyntax)
	askFault(t, "\n\n  abc $   ", 3, 8, api.ErrSyntax)
	askFault(t, "(abc", 1, 5, api.ErrSyntax)
	askFault(t, "( abc\n\n\tdef", 3, 5, api.ErrSyntax)
	askFault(t, "$9", 1, 2, api.ErrSyntax)
	askFault(t, "abc\ndef ->\n", 2, 5, api.ErrSyntax)
	askFault(t, "a\n\n  *b\n |c)", 4, 4, api.ErrSyntax)
	askFault(t, "|", 1, 1, api.ErrSyntax)
	askFault(t, "# a\n |a", 2, 2, api.ErrSyntax)
	askFault(t, strings.Repeat("(\n", 51)+"a"+strings.Repeat("\n)", 51), 51, 1, api.ErrDeep)
	askFault(t, "a"+strings.Repeat(" (", 51)+"a"+strings.Repeat(")", 51), 1, 103, api.ErrDeep)
	askFault(t, "\n a"+strings.Repeat("\n*", api.MaxDeep), 0, 0, api.ErrDeep)
	askFault(t, strings.Repeat("\na", api.MaxRegex), 0, 0, api.ErrMany)
}

// words.Lines' error comes ahead of all.
func TestTextsWithoutWords(t *testing.T) {
	askFault(t, "a%", 1, 2, api.ErrByte)
	askFault(t, ") |\n a !", 2, 4, api.ErrByte)
	askFault(t, strings.Repeat("(", 51)+"%", 1, 52, api.ErrByte)
	askFault(t, strings.Repeat("a ", api.MaxRegex)+"\r\n", 1, 2*api.MaxRegex+1, api.ErrByte)
	long := strings.Repeat(" ", api.MaxText-1)
	askParse(t, long+"a", a)
	askParse(t, "a#"+long[1:], a)
	askFault(t, long+")", 1, api.MaxText, api.ErrSyntax)
	askFault(t, long+" a", 0, 0, api.ErrLong)
	askFault(t, long+" %", 0, 0, api.ErrLong)
	askFault(t, long+"))", 0, 0, api.ErrLong)
}

func TestLongTexts(t *testing.T) {
	for s, want := range map[string]api.Errno{"a": api.ErrSyntax, "a ": api.ErrMany, ".": api.ErrMany, "a*": api.ErrMany, "()": api.OK, "a|": api.ErrSyntax, "(": api.ErrSyntax, "(a)": api.ErrMany, ")": api.ErrSyntax, "$a": api.ErrMany} {
		_, _, _, e := regex.Parse(strings.Repeat(s, api.MaxText/len(s)))
		same(t, "Parse of many of "+s, e, want)
	}
	askFault(t, strings.Repeat("(", api.MaxText), 1, api.MaxText+1, api.ErrSyntax)
	askFault(t, strings.Repeat("(", api.MaxText/2)+strings.Repeat(")", api.MaxText/2), 1, 51, api.ErrDeep)
	askFault(t, strings.Repeat("(", api.MaxText/4)+"a"+strings.Repeat("b)", api.MaxText/4), 1, 51, api.ErrDeep)
	askTooGreat(t, "a "+strings.Repeat("* ", api.MaxText/2-1), api.ErrMany)
	askTooGreat(t, strings.Repeat("( ", 49)+strings.Repeat("a b ", 100000)+strings.Repeat(") c ", 49), api.ErrMany)
}

// Rule 4

// copyOf shares no memory with an expression.
func copyOf(r api.Regex) api.Regex {
	r.Kids = slices.Clone(r.Kids)
	for i, k := range r.Kids {
		r.Kids[i] = copyOf(k)
	}
	return r
}

func TestNothingChanged(t *testing.T) {
	kids := make([]api.Regex, 3, 5)
	kids[0], kids[1], kids[2] = c, star(alt(b, class("y"))), class("x")
	spare := kids[:5]
	spare[3], spare[4] = b, a
	r, other := seq(kids...), seq(c, star(alt(b, class("y"))), class("z"))
	wantR, wantOther, wantSpare := told(r), told(other), told(seq(spare...))
	path := []api.Who{who("c", "z", "y"), who("b", "y", "x"), who("d", "x")}
	regex.Check(r)
	regex.Size(r)
	regex.Print(r)
	regex.Same(r, other)
	regex.Match(r, path...)
	regex.Names(r)
	same(t, "the expression", told(r), wantR)
	same(t, "the other one", told(other), wantOther)
	same(t, "what stands behind its Kids", told(seq(spare...)), wantSpare)
	for i, w := range []api.Who{who("c", "z", "y"), who("b", "y", "x"), who("d", "x")} {
		same(t, "a device", path[i].Name == w.Name && slices.Equal(path[i].Classes, w.Classes), true)
	}

	l := wordsOf("a", "(", "b", "c", ")", "|", "(", ")", "behind")
	want := slices.Clone(l)
	regex.Read(l[:8]...)
	same(t, "the words", slices.Equal(l, want), true)
}

// lies tells whether a text's first byte is one of another's, in memory.
func lies(part, whole string) bool {
	at, from := uintptr(unsafe.Pointer(unsafe.StringData(part))), uintptr(unsafe.Pointer(unsafe.StringData(whole)))
	return from <= at && at < from+uintptr(len(whole))
}

// eachNode goes through all nodes.
func eachNode(r *api.Regex, do func(r *api.Regex)) {
	do(r)
	for i := range r.Kids {
		eachNode(&r.Kids[i], do)
	}
}

func TestNothingKept(t *testing.T) {
	text := "name ( b c ) ( name | ( $ core | name * ) ) ( )"
	l := wordsOf(strings.Fields(text)...)
	r, _, e := regex.Read(l...)
	same(t, "Read's error", e, api.OK)
	want := told(r)
	eachNode(&r, func(n *api.Regex) {
		if n.Name != "" {
			same(t, "a piece of the words: "+n.Name, lies(n.Name, text), false)
		}
		_ = append(n.Kids, api.Regex{Name: "behind"})
		same(t, "lists behind one that has grown", told(r), want)
	})
	for i := range l {
		l[i].Text = "spoilt"
	}
	same(t, "the expression", told(r), want)

	s, _ := regex.Print(r)
	again, _, _, _ := regex.Parse(s)
	other, _, _, _ := regex.Parse(s)
	eachNode(&again, func(n *api.Regex) {
		if n.Name != "" {
			same(t, "a piece of the text: "+n.Name, lies(n.Name, s), false)
		}
	})
	eachNode(&again, func(n *api.Regex) { n.Name += "x" })
	same(t, "another answer", told(other), want)
	askPrint(t, r, s)
}

func TestNamesAreNewMemory(t *testing.T) {
	text := "device core"
	r := alt(device(text[:6]), class(text[7:]), device(text[:6]), class("x"))
	devices, classes, _ := regex.Names(r)
	for _, s := range slices.Concat(devices, classes) {
		same(t, "a piece of the expression: "+s, lies(s, text), false)
	}
	_, _ = append(devices, "y"), append(classes, "z")
	devices[0], classes[0] = "spoilt", "spoilt"
	askNames(t, r, "device", "core x")
	s, _ := regex.Print(device(text[:6]))
	same(t, "a piece of what is printed", lies(s, text), false)
}

// A refused call leaves no trace in the next one.
func TestAfterError(t *testing.T) {
	askNoRead(t, "( ( a", 3, api.ErrSyntax)
	askNoRead(t, strings.Repeat("( ", 51)+strings.Repeat(") ", 51), 50, api.ErrDeep)
	regex.Match(seq(a), who("a"))
	regex.Print(alt())
	askRead(t, "( a | b ) *", star(alt(a, b)))
	askPrint(t, seq(a, b), "a b")
	askMatch(t, "a b", "a b", true)
}

// Rule 5: answers hang on no earlier call.
func TestAgain(t *testing.T) {
	r := parsed(t, "(a|$x b)* .")
	before := told(copyOf(r))
	for range 3 {
		ok, _ := regex.Match(r, who("a"), who("c", "x"), who("b"), who("d"))
		same(t, "Match", ok, true)
		ok, _ = regex.Match(r, who("c", "x"), who("d"), who("b"))
		same(t, "Match", ok, false)
		askPrint(t, r, "(a|$x b)*.")
	}
	same(t, "the expression", told(r), before)
}
