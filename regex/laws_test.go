package regex_test

import (
	"math/rand"
	"regexp"
	"strings"
	"testing"

	"milestone/api"
	"milestone/regex"
	"milestone/words"
)

// eachRow goes through all rows of at most so many of the words.
func eachRow(words []string, most int, do func(l []string)) {
	var grow func(l []string)
	grow = func(l []string) {
		do(l)
		if len(l) < most {
			for _, w := range words {
				grow(append(l[:len(l):len(l)], w))
			}
		}
	}
	grow(nil)
}

// askByWords asks Read for what the document's words say of a row.
func askByWords(t *testing.T, l []string) {
	t.Helper()
	want := api.Regex{}
	wantAt, wantE := faultByWords(l)
	if wantE == api.OK {
		want = treeByWords(l)
	}
	r, at, e := regex.Read(wordsOf(l...)...)
	if told(r) != told(want) || at != wantAt || e != wantE {
		t.Fatalf("Read(%q) = %s, %d, %v, want %s, %d, %v", l, told(r), at, e, told(want), wantAt, wantE)
	}
	if e == api.OK && regex.Check(r) != api.OK {
		t.Fatalf("Read(%q) = %s, which may not be", l, told(r))
	}
}

// P9.2, of all short rows of words.
func TestReadByWords(t *testing.T) {
	eachRow([]string{"a", "$", "(", ")", "|", "*"}, 7, func(l []string) { askByWords(t, l) })
	eachRow([]string{"a", "b", ".", "$", "(", ")", "|", "*", "+", "?", ",", "9", ""}, 4, func(l []string) { askByWords(t, l) })
}

// P9.2, of longer rows: one that are an expression, and the same with a word put in, taken out, or changed.
func TestReadSpoiltByWords(t *testing.T) {
	r := rand.New(rand.NewSource(9))
	some := strings.Fields("a b $ . ( ) | * + ? , ->")
	for range 3000 {
		s, e := regex.Print(someExpression(r, 60, 12))
		same(t, "Print's error", e, api.OK)
		l := textsIn(t, s)
		askByWords(t, l)
		for range 5 {
			at := r.Intn(len(l))
			w := some[r.Intn(len(some))]
			askByWords(t, append(append(l[:at:at], w), l[at:]...))
			askByWords(t, append(append(l[:at:at], w), l[at+1:]...))
			askByWords(t, append(l[:at:at], l[at+1:]...))
		}
	}
}

// P9.2, of rows in which many parentheses are open.
func TestReadDeepByWords(t *testing.T) {
	r := rand.New(rand.NewSource(51))
	right := []string{")", ") *", ") ( )", "a )", "( a | b ) )", "$ a ) ?"}
	wrong := []string{"| )", "$ )", ") ,", "a | )", ") )", "( a )"}
	come := map[api.Errno]int{}
	for range 20000 {
		open := 45 + r.Intn(12)
		l := strings.Fields("a | " + strings.Repeat("( ", open))
		at := r.Intn(2 * open)
		for i := range open {
			closes := right[r.Intn(len(right))]
			if i == at {
				closes = wrong[r.Intn(len(wrong))]
			}
			l = append(l, strings.Fields(closes)...)
		}
		_, e := faultByWords(l)
		come[e]++
		askByWords(t, l)
	}
	for _, e := range []api.Errno{api.OK, api.ErrSyntax, api.ErrDeep} {
		same(t, "rows of each kind come often", come[e] > 2000, true)
	}
}

// textsIn are the texts of all words of a text.
func textsIn(t *testing.T, s string) []string {
	t.Helper()
	lines, _, _, e := words.Lines(s)
	same(t, "Lines' error", e, api.OK)
	var l []string
	for _, line := range lines {
		for _, w := range line {
			l = append(l, w.Text)
		}
	}
	return l
}

// P9.3: a text's words, wherever its lines end, are read as one row; the fault is at the word's place.
func TestParseByWords(t *testing.T) {
	r := rand.New(rand.NewSource(3))
	some := strings.Fields("a bc $ . ( ) | * + a bc")
	for range 30000 {
		var text strings.Builder
		var l []api.Word
		line, col := 1, 1
		write := func(s string) {
			text.WriteString(s)
			for _, b := range []byte(s) {
				if col++; b == '\n' {
					line, col = line+1, 1
				}
			}
		}
		endLine, endCol := 1, 1
		for range r.Intn(9) {
			write([]string{" ", "\n", "\t ", " # a)\n", "\n\n  "}[r.Intn(5)])
			w := some[r.Intn(len(some))]
			l = append(l, api.Word{Text: w, Line: line, Col: col})
			write(w)
			endLine, endCol = line, col
		}
		write([]string{"", " ", "\n", "#"}[r.Intn(4)])
		want, at, wantE := regex.Read(l...)
		wantLine, wantCol := 0, 0
		if wantE != api.OK && at < len(l) {
			wantLine, wantCol = l[at].Line, l[at].Col
		} else if wantE != api.OK {
			wantLine, wantCol = endLine, endCol
		}
		got, gotLine, gotCol, e := regex.Parse(text.String())
		if told(got) != told(want) || gotLine != wantLine || gotCol != wantCol || e != wantE {
			t.Fatalf("Parse(%q) = %s at %d, %d: %v, want %s at %d, %d: %v", text.String(), told(got), gotLine, gotCol, e, told(want), wantLine, wantCol, wantE)
		}
	}
}

// P9.1, P9.4 to P9.6, of all small expressions.
func TestSmallExpressions(t *testing.T) {
	texts := map[string]string{}
	eachSmall(5, func(r api.Regex) {
		nodes, deep := sizeByWords(r)
		askSize(t, r, nodes, deep)
		s, e := regex.Print(r)
		if e != api.OK {
			t.Fatalf("Print(%s): %v", told(r), e)
		}
		if other, ok := texts[s]; ok {
			t.Fatalf("Print is %q of %s and of %s", s, told(r), other)
		}
		texts[s] = told(r)
		askThereAndBack(t, r)
		askFewestParentheses(t, s, r)
	})
}

// askThereAndBack asks that what is printed is parsed as the same, and printed as the same.
func askThereAndBack(t *testing.T, r api.Regex) {
	t.Helper()
	s, e := regex.Print(r)
	got, line, col, parseE := regex.Parse(s)
	if e != api.OK || parseE != api.OK || line != 0 || col != 0 || told(got) != told(r) || !regex.Same(got, r) {
		t.Fatalf("Parse of Print of %s, %q = %s at %d, %d: %v", told(r), s, told(got), line, col, parseE)
	}
	if again, _ := regex.Print(got); again != s {
		t.Fatalf("Print of Parse of %q = %q", s, again)
	}
}

// askFewestParentheses asks that no pair of parentheses could be left out, but that of the empty sequence.
func askFewestParentheses(t *testing.T, s string, r api.Regex) {
	t.Helper()
	l := textsIn(t, s)
	var open []int
	for i, w := range l {
		if w == "(" {
			open = append(open, i)
		}
		if w != ")" {
			continue
		}
		from := open[len(open)-1]
		open = open[:len(open)-1]
		without := append(append(append([]string{}, l[:from]...), l[from+1:i]...), l[i+1:]...)
		if got, _, e := regex.Read(wordsOf(without...)...); e == api.OK && regex.Same(got, r) && i > from+1 {
			t.Fatalf("Print(%s) = %q: parentheses too many", told(r), s)
		}
	}
}

// mostOpen is how many parentheses of a text are open at once.
func mostOpen(s string) int {
	open, most := 0, 0
	for _, w := range s {
		if w == '(' {
			open++
		} else if w == ')' {
			open--
		}
		most = max(most, open)
	}
	return most
}

// P9.6, of great expressions: with more than 50 parentheses open at once they are refused.
func TestThereAndBack(t *testing.T) {
	r := rand.New(rand.NewSource(6))
	for range 2000 {
		askThereAndBack(t, someExpression(r, 300, 40))
	}
	for n := range 33 {
		for leaf, open := range map[string]int{"c": 2 * n, "()": 2*n + 1} {
			x := parsed(t, leaf)
			for range n {
				x = star(seq(a, alt(b, x)))
			}
			s, e := regex.Print(x)
			same(t, "Print's error", e, api.OK)
			same(t, "parentheses", mostOpen(s), open)
			if open <= 50 {
				askThereAndBack(t, x)
				continue
			}
			_, line, col, e := regex.Parse(s)
			same(t, "Parse's error", e, api.ErrDeep)
			same(t, "its place", line == 1 && s[col-1] == '(' && strings.Count(s[:col], "(") == 51, true)
		}
	}
}

// P9.6: of texts that are parsed, whatever parentheses stand in them.
func TestBackAndThere(t *testing.T) {
	eachRow([]string{"a", ".", "(", ")", "|", "*"}, 7, func(l []string) {
		if r, _, e := regex.Read(wordsOf(l...)...); e == api.OK {
			askThereAndBack(t, r)
		}
	})
}

// askMatchByWords asks for what all ways to part a path say.
func askMatchByWords(t *testing.T, r api.Regex, path []api.Who) {
	t.Helper()
	if ok, e := regex.Match(r, path...); ok != isOneOf(path, r) || e != api.OK {
		t.Fatalf("Match(%s, %v) = %v, %v", told(r), path, ok, e)
	}
}

// P9.5, by the document's words.
func TestMatchByWords(t *testing.T) {
	eachSmall(3, func(r api.Regex) {
		eachPath(4, func(path []api.Who) { askMatchByWords(t, r, path) })
	})
	eachSmall(5, func(r api.Regex) {
		eachPath(2, func(path []api.Who) { askMatchByWords(t, r, path) })
	})
	r := rand.New(rand.NewSource(5))
	for range 20000 {
		askMatchByWords(t, someExpression(r, 12, 6), somePath(r, 5))
	}
}

// P9.5, by the library's own expressions.
func TestMatchByLibrary(t *testing.T) {
	r := rand.New(rand.NewSource(7))
	for range 1500 {
		x := someExpression(r, 100, 10)
		other := regexp.MustCompile("^(?:" + pattern(x) + ")$")
		for range 40 {
			var path []api.Who
			letters := ""
			for range r.Intn(12) {
				letter := string(rune('a' + r.Intn(4)))
				w := who(letter)
				if letter == "b" {
					w.Classes = []string{"x", "y"}
				}
				path, letters = append(path, w), letters+letter
			}
			if ok, e := regex.Match(x, path...); ok != other.MatchString(letters) || e != api.OK {
				t.Fatalf("Match(%s, %s) = %v, %v", told(x), letters, ok, e)
			}
		}
	}
}

// P9.5: Names are those of all nodes.
func TestNamesByNodes(t *testing.T) {
	r := rand.New(rand.NewSource(4))
	for range 3000 {
		x := someExpression(r, 40, 8)
		has := map[api.RegexOp]map[string]int{api.RDevice: {}, api.RClass: {}}
		eachNode(&x, func(n *api.Regex) {
			if n.Name != "" {
				has[n.Op][n.Name]++
			}
		})
		list := func(op api.RegexOp) string {
			s := ""
			for _, name := range []string{"a", "b", "c", "x", "y"} {
				if has[op][name] > 0 {
					s += name + " "
				}
			}
			return s
		}
		askNames(t, x, list(api.RDevice), list(api.RClass))
	}
}

// P9.1: what may be, of nodes of all kinds with Kids of all kinds.
func TestCheckByWords(t *testing.T) {
	var leaves []api.Regex
	for op := api.RegexOp(-1); op <= 9; op++ {
		for _, name := range []string{"", "a", "9"} {
			leaves = append(leaves, api.Regex{Op: op, Name: name})
		}
	}
	ask := func(r api.Regex) {
		want := api.ErrRegex
		if mayBeByWords(r) {
			want = api.OK
		}
		if e := regex.Check(r); e != want {
			t.Fatalf("Check(%s) = %v, want %v", told(r), e, want)
		}
	}
	for _, r := range leaves {
		ask(r)
		for _, x := range leaves {
			r.Kids = []api.Regex{x}
			ask(r)
			for _, y := range append(leaves, seq(a, b), alt(a, b), star(a)) {
				r.Kids = []api.Regex{x, y}
				ask(r)
				r.Kids = []api.Regex{y, x, y}
				ask(r)
			}
		}
	}
}

// P9.7

func TestWhatTheyMean(t *testing.T) {
	var small []api.Regex
	eachSmall(2, func(r api.Regex) { small = append(small, r) })
	small = append(small, seq(a, b), alt(a, b), alt(a, seq()), star(seq(a, b)), opt(seq(a, anyOne())))
	for _, x := range small {
		askSamePaths(t, plus(x), "x x*", x, x)
		askSamePaths(t, opt(x), "x|()", x, x)
		for _, y := range small {
			askSamePaths(t, star(flat(api.RAlt, x, y)), "(x* y*)*", x, y)
		}
	}
}

// flat is an expression of a kind, whose Kids of that kind are taken apart.
func flat(op api.RegexOp, kids ...api.Regex) api.Regex {
	r := api.Regex{Op: op}
	for _, k := range kids {
		if k.Op == op {
			r.Kids = append(r.Kids, k.Kids...)
		} else {
			r.Kids = append(r.Kids, k)
		}
	}
	if len(r.Kids) == 1 {
		return r.Kids[0]
	}
	return r
}

// askSamePaths asks that an expression has the paths of a text in which x and y stand for others.
func askSamePaths(t *testing.T, r api.Regex, s string, x, y api.Regex) {
	t.Helper()
	put := map[string]string{}
	put["x"], _ = regex.Print(x)
	put["y"], _ = regex.Print(y)
	s = strings.NewReplacer("x", "("+put["x"]+")", "y", "("+put["y"]+")").Replace(s)
	other := parsed(t, s)
	eachPath(4, func(path []api.Who) {
		one, e := regex.Match(r, path...)
		two, otherE := regex.Match(other, path...)
		if one != two || e != api.OK || otherE != api.OK {
			t.Fatalf("%s: Match(%s, %v) = %v, %v, of the other one %v, %v", s, told(r), path, one, e, two, otherE)
		}
	})
}
