package regex_test

import (
	"slices"
	"strings"
	"testing"

	"milestone/api"
	"milestone/regex"
)

// P9.1

func TestCheck(t *testing.T) {
	for _, r := range []api.Regex{
		a, device("_"), device("a-1"), device(strings.Repeat("a", api.MaxName)), class("core"), anyOne(), seq(),
		seq(a, b), seq(a, a, a), alt(a, b), alt(a, a), alt(a, seq()), alt(seq(), seq()),
		star(a), plus(a), opt(a), star(seq()), star(star(a)), plus(opt(star(a))),
		seq(alt(a, b), c), alt(seq(a, b), c), seq(alt(seq(a, b), c), a), star(seq(a, star(alt(a, b)))),
		seq(star(seq(a, b)), c), alt(star(alt(a, b)), c),
	} {
		askCheck(t, r, api.OK)
	}
	empty := []api.Regex{}
	askCheck(t, api.Regex{Op: api.RDevice, Name: "a", Kids: empty}, api.OK)
	askCheck(t, api.Regex{Op: api.RSeq, Kids: empty}, api.OK)
}

func TestLimits(t *testing.T) {
	askCheck(t, wide(api.RSeq, api.MaxRegex-1), api.OK)
	askCheck(t, wide(api.RSeq, api.MaxRegex), api.ErrMany)
	askCheck(t, wide(api.RAlt, api.MaxRegex-1), api.OK)
	askCheck(t, wide(api.RAlt, api.MaxRegex), api.ErrMany)
	askCheck(t, chain(api.MaxDeep), api.OK)
	askCheck(t, chain(api.MaxDeep+1), api.ErrDeep)
	askCheck(t, seq(a, chain(api.MaxDeep-1)), api.OK)
	askCheck(t, seq(a, chain(api.MaxDeep), b), api.ErrDeep)
	askCheck(t, seq(chain(api.MaxDeep-1), wide(api.RAlt, api.MaxRegex-api.MaxDeep-1)), api.OK)
	askCheck(t, seq(chain(api.MaxDeep-1), wide(api.RAlt, api.MaxRegex-api.MaxDeep)), api.ErrMany)
}

func TestSize(t *testing.T) {
	askSize(t, a, 1, 1)
	askSize(t, seq(), 1, 1)
	askSize(t, star(a), 2, 2)
	askSize(t, seq(a, b), 3, 2)
	askSize(t, seq(a, star(anyOne()), class("core"), plus(alt(b, c))), 9, 4)
	askSize(t, alt(star(star(a)), b), 5, 4)
	askSize(t, alt(b, star(star(a))), 5, 4)
}

// Of what may not be, too.
func TestSizeOfAny(t *testing.T) {
	askSize(t, api.Regex{}, 1, 1)
	askSize(t, api.Regex{Op: -7, Name: "%", Kids: []api.Regex{{}, {Kids: []api.Regex{{}}}}}, 4, 3)
	askSize(t, seq(seq(seq(a))), 4, 4)
}

func TestSizeAtItsLimits(t *testing.T) {
	askSize(t, wide(api.RSeq, 99999), 100000, 2)
	askSize(t, wide(api.RSeq, 100000), 0, 0)
	askSize(t, wide(0, 1000000), 0, 0)
	askSize(t, chain(1000), 1000, 1000)
	askSize(t, chain(1001), 0, 0)
	askSize(t, chain(65536), 0, 0)
	askSize(t, seq(wide(api.RAlt, 98998), chain(999)), 99999, 1000)
	askSize(t, seq(wide(api.RAlt, 98999), chain(999)), 100000, 1000)
	askSize(t, seq(wide(api.RAlt, 99000), chain(999)), 0, 0)
	askSize(t, seq(wide(api.RAlt, 98999), chain(1000)), 0, 0)
	askSize(t, seq(chain(1000), a), 0, 0)
	askSize(t, seq(a, chain(1000)), 0, 0)
}

// P9.2, P9.3

func TestReadOfTheDocument(t *testing.T) {
	r := seq(a, star(anyOne()), class("core"), plus(alt(b, c)))
	askRead(t, "a . * $ core ( b | c ) +", r)
	askParse(t, "a .* $core (b|c)+", r)
	askPrint(t, r, "a.*$core(b|c)+")
	askRead(t, "( )", seq())
	askParse(t, "()", seq())
	askFault(t, "a |", 1, 4, api.ErrSyntax)
}

func TestReadOneKind(t *testing.T) {
	askRead(t, "a", a)
	askRead(t, "_", device("_"))
	askRead(t, "core-1", device("core-1"))
	askRead(t, strings.Repeat("a", api.MaxName), device(strings.Repeat("a", api.MaxName)))
	askRead(t, "$ a", class("a"))
	askRead(t, ".", anyOne())
	askRead(t, "a b", seq(a, b))
	askRead(t, "a b a b", seq(a, b, a, b))
	askRead(t, ". .", seq(anyOne(), anyOne()))
	askRead(t, "a | b", alt(a, b))
	askRead(t, "a | a | $ a | .", alt(a, a, class("a"), anyOne()))
	askRead(t, "a *", star(a))
	askRead(t, "a +", plus(a))
	askRead(t, "a ?", opt(a))
}

func TestReadBinds(t *testing.T) {
	askRead(t, "a b | c", alt(seq(a, b), c))
	askRead(t, "a | b c", alt(a, seq(b, c)))
	askRead(t, "( a | b ) c", seq(alt(a, b), c))
	askRead(t, "a ( b | c )", seq(a, alt(b, c)))
	askRead(t, "a b *", seq(a, star(b)))
	askRead(t, "( a b ) *", star(seq(a, b)))
	askRead(t, "a | b +", alt(a, plus(b)))
	askRead(t, "( a | b ) +", plus(alt(a, b)))
	askRead(t, "$ a ?", opt(class("a")))
	askRead(t, "a * + ?", opt(plus(star(a))))
	askRead(t, "a ? ? b * *", seq(opt(opt(a)), star(star(b))))
	askRead(t, "( ( a * ) b ) +", plus(seq(star(a), b)))
	askRead(t, "a | b * c | ( ) ?", alt(a, seq(star(b), c), opt(seq())))
}

func TestReadParentheses(t *testing.T) {
	askRead(t, "( a )", a)
	askRead(t, "( ( a ) )", a)
	askRead(t, "( ( ) )", seq())
	askRead(t, "( ( ( ) ) ) *", star(seq()))
	askRead(t, "( a ) *", star(a))
	askRead(t, "( a * )", star(a))
	askRead(t, "( $ a )", class("a"))
}

// What is read may be.

func TestSequencesInSequences(t *testing.T) {
	askRead(t, "a ( b c )", seq(a, b, c))
	askRead(t, "( a b ) c", seq(a, b, c))
	askRead(t, "( a b )", seq(a, b))
	askRead(t, "( a b ) ( b c )", seq(a, b, b, c))
	askRead(t, "( ( a b ) c ) ( a ( b ( c a ) ) )", seq(a, b, c, a, b, c, a))
	askRead(t, "( a b ) * c", seq(star(seq(a, b)), c))
	askRead(t, "( a b | c ) a", seq(alt(seq(a, b), c), a))
	askRead(t, "( a b ) | c", alt(seq(a, b), c))
}

func TestEmptySequencesInOthers(t *testing.T) {
	askRead(t, "( ) ( )", seq())
	askRead(t, "( ) ( ) ( )", seq())
	askRead(t, "( ( ) ( ) )", seq())
	askRead(t, "a ( )", a)
	askRead(t, "( ) a", a)
	askRead(t, "( ) a ( )", a)
	askRead(t, "a ( ) b", seq(a, b))
	askRead(t, "( ) ( a b )", seq(a, b))
	askRead(t, "( a ( ) ) b", seq(a, b))
	askRead(t, "( ( ) a ) *", star(a))
	askRead(t, "a ( ) *", seq(a, star(seq())))
	askRead(t, "a ( ( ) | b )", seq(a, alt(seq(), b)))
	askRead(t, "( ) ( ( ) ( ) ) +", plus(seq()))
	askRead(t, "a | ( )", alt(a, seq()))
	askRead(t, "( ) | ( )", alt(seq(), seq()))
	askRead(t, strings.Repeat("( ) ", 2000), seq())
	askRead(t, strings.Repeat("( ) ", 2000)+"a", a)
}

func TestAlternativesInAlternatives(t *testing.T) {
	askRead(t, "a | ( b | c )", alt(a, b, c))
	askRead(t, "( a | b ) | c", alt(a, b, c))
	askRead(t, "( a | b )", alt(a, b))
	askRead(t, "( a | b ) | ( b | c )", alt(a, b, b, c))
	askRead(t, "a | ( ( b | ( c | a ) ) | b )", alt(a, b, c, a, b))
	askRead(t, "a | ( b | c ) *", alt(a, star(alt(b, c))))
	askRead(t, "a | ( b | c ) a", alt(a, seq(alt(b, c), a)))
	askRead(t, "a | ( ( b | c ) )", alt(a, b, c))
	askRead(t, "a | ( b | c ) ( )", alt(a, b, c))
	askRead(t, "( ) ( a | b ) ( ) | c", alt(a, b, c))
	askRead(t, "a ( b ( a | b ) )", seq(a, b, alt(a, b)))
}

func TestReadAtTheLimits(t *testing.T) {
	askRead(t, strings.Repeat("a ", api.MaxRegex-1), wide(api.RSeq, api.MaxRegex-1))
	askTooGreat(t, strings.Repeat("a ", api.MaxRegex), api.ErrMany)
	askRead(t, strings.Repeat("a | ", api.MaxRegex-2)+"a", wide(api.RAlt, api.MaxRegex-1))
	askTooGreat(t, strings.Repeat("a | ", api.MaxRegex-1)+"a", api.ErrMany)
	askRead(t, "a"+strings.Repeat(" * + ?", 33), chain(api.MaxDeep))
	askTooGreat(t, "a"+strings.Repeat(" * + ?", 33)+" *", api.ErrDeep)
	askTooGreat(t, "a"+strings.Repeat(" *", api.MaxRegex-1), api.ErrDeep)
	askTooGreat(t, "a"+strings.Repeat(" *", api.MaxRegex), api.ErrMany)
	askTooGreat(t, "a"+strings.Repeat(" b", api.MaxRegex)+strings.Repeat(" *", api.MaxDeep), api.ErrMany)
}

func TestOpenParentheses(t *testing.T) {
	nested := func(n int, s string) string { return strings.Repeat("( ", n) + s + strings.Repeat(" )", n) }
	for _, n := range []int{1, 2, 49, 50} {
		askRead(t, nested(n, "a"), a)
		askRead(t, nested(n-1, "( )"), seq())
		askRead(t, "b "+nested(n, "a")+" c", seq(b, a, c))
	}
	askRead(t, strings.Repeat("( a ) ", 60), wide(api.RSeq, 60))
	askRead(t, nested(50, "a")+" "+nested(50, "b"), seq(a, b))
	askRead(t, nested(49, "( a ) ( b ) ( )"), seq(a, b))
	askNoRead(t, nested(51, "a"), 50, api.ErrDeep)
	askNoRead(t, nested(52, "a"), 50, api.ErrDeep)
	askNoRead(t, nested(50, "( )"), 50, api.ErrDeep)
	askNoRead(t, "a b * "+nested(51, "a"), 53, api.ErrDeep)
	askNoRead(t, nested(50, "a")+" "+nested(51, "a"), 151, api.ErrDeep)
	askNoRead(t, nested(49, "( a ) ( ( b ) )"), 53, api.ErrDeep)
}

// Rule 2: ErrSyntax comes first, wherever its word stands; Check's errors come last.
func TestOpenParenthesesAndOtherFaults(t *testing.T) {
	open := strings.Repeat("( ", 51)
	askNoRead(t, open, 51, api.ErrSyntax)
	askNoRead(t, open+"|", 51, api.ErrSyntax)
	askNoRead(t, open+"a", 52, api.ErrSyntax)
	askNoRead(t, open+"a"+strings.Repeat(" )", 50), 102, api.ErrSyntax)
	askNoRead(t, open+"a"+strings.Repeat(" )", 52), 103, api.ErrSyntax)
	askNoRead(t, open+"a"+strings.Repeat(" )", 51)+" |", 104, api.ErrSyntax)
	askNoRead(t, open+"a | )"+strings.Repeat(" )", 50), 53, api.ErrSyntax)
	askNoRead(t, open+"a * | $ b"+strings.Repeat(" )", 51)+" +", 50, api.ErrDeep)
	askNoRead(t, open+strings.Repeat(") ", 51)+open+strings.Repeat(") ", 51), 50, api.ErrDeep)
	askNoRead(t, strings.Repeat("( ", 500000), 500000, api.ErrSyntax)
	askNoRead(t, strings.Repeat("( ", 260000)+strings.Repeat(") ", 260000), 50, api.ErrDeep)
	askNoRead(t, "| "+open+"a"+strings.Repeat(" )", 51), 0, api.ErrSyntax)
	askNoRead(t, strings.Repeat("( ", 50)+"| ( a", 50, api.ErrSyntax)
	askNoRead(t, strings.Repeat("a ", 2*api.MaxRegex)+open+"a"+strings.Repeat(" )", 51), 2*api.MaxRegex+50, api.ErrDeep)
	askNoRead(t, strings.Repeat("a ", 2*api.MaxRegex)+")", 2*api.MaxRegex, api.ErrSyntax)
	askNoRead(t, "a"+strings.Repeat(" *", api.MaxDeep)+" |", api.MaxDeep+2, api.ErrSyntax)
}

// P9.3

func TestParseLines(t *testing.T) {
	askParse(t, "a\nb", seq(a, b))
	askParse(t, "\n\na # of two\n|\n\n\tb\n", alt(a, b))
	askParse(t, "(\na\n)\n*", star(a))
	askParse(t, "$\na", class("a"))
	askParse(t, "a\n*\n# b\n", star(a))
	askParse(t, "a.b", seq(a, anyOne(), b))
	askParse(t, "a b-c$d-", seq(a, device("b-c"), class("d-")))
	askParse(t, " \t( a|b )\t", alt(a, b))
}

// P9.4

func TestPrintOneKind(t *testing.T) {
	askPrint(t, a, "a")
	askPrint(t, class("a"), "$a")
	askPrint(t, anyOne(), ".")
	askPrint(t, seq(), "()")
	askPrint(t, seq(a, b), "a b")
	askPrint(t, seq(a, class("b"), class("c"), b), "a$b$c b")
	askPrint(t, seq(anyOne(), a, anyOne()), ".a.")
	askPrint(t, alt(a, b, class("c"), anyOne()), "a|b|$c|.")
	askPrint(t, star(a), "a*")
	askPrint(t, plus(a), "a+")
	askPrint(t, opt(a), "a?")
	askPrint(t, device("a-"), "a-")
	askPrint(t, seq(a, device("_-"), class("b")), "a _-$b")
}

// How each kind binds under each other one.
func TestPrintBinds(t *testing.T) {
	askPrint(t, seq(a, alt(b, c)), "a(b|c)")
	askPrint(t, seq(alt(a, b), c), "(a|b)c")
	askPrint(t, seq(alt(a, b), alt(b, c)), "(a|b)(b|c)")
	askPrint(t, seq(star(a), b), "a*b")
	askPrint(t, seq(a, plus(b), opt(c)), "a b+c?")
	askPrint(t, alt(seq(a, b), c), "a b|c")
	askPrint(t, alt(a, seq(b, c)), "a|b c")
	askPrint(t, alt(a, seq()), "a|()")
	askPrint(t, alt(seq(), seq(), star(seq())), "()|()|()*")
	askPrint(t, alt(star(a), plus(b), opt(c)), "a*|b+|c?")
	for sign, of := range map[string]func(api.Regex) api.Regex{"*": star, "+": plus, "?": opt} {
		askPrint(t, of(a), "a"+sign)
		askPrint(t, of(class("a")), "$a"+sign)
		askPrint(t, of(anyOne()), "."+sign)
		askPrint(t, of(seq()), "()"+sign)
		askPrint(t, of(seq(a, b)), "(a b)"+sign)
		askPrint(t, of(alt(a, b)), "(a|b)"+sign)
		askPrint(t, of(star(a)), "a*"+sign)
		askPrint(t, of(plus(a)), "a+"+sign)
		askPrint(t, of(opt(a)), "a?"+sign)
		askPrint(t, of(of(seq(a, b))), "(a b)"+sign+sign)
		askPrint(t, seq(c, of(seq(a, alt(b, seq())))), "c(a(b|()))"+sign)
	}
	askPrint(t, seq(a, alt(seq(b, star(alt(a, seq(b, c)))), c)), "a(b(a|b c)*|c)")
}

func TestPrintAtTheLimits(t *testing.T) {
	askPrint(t, chain(api.MaxDeep), "a"+strings.Repeat("*+?", 33))
	askPrint(t, wide(api.RSeq, api.MaxRegex-1), "a"+strings.Repeat(" a", api.MaxRegex-2))
	long := device(strings.Repeat("n", api.MaxName))
	askPrint(t, seq(slices.Repeat([]api.Regex{long}, api.MaxRegex-1)...), long.Name+strings.Repeat(" "+long.Name, api.MaxRegex-2))
}

// P9.5

func TestSame(t *testing.T) {
	l := []api.Regex{
		a, b, class("a"), class("b"), anyOne(), seq(), seq(a, b), seq(b, a), seq(a, b, c), seq(a, a), alt(a, b), alt(b, a), alt(a, seq()),
		star(a), plus(a), opt(a), star(b), star(star(a)), plus(star(a)), star(seq(a, b)), seq(a, star(b)), seq(star(a), b), seq(a, star(c)),
		{}, {Op: 9}, {Op: -1}, {Name: "a"}, {Op: api.RAny, Name: "a"}, {Op: api.RDevice}, {Op: api.RDevice, Name: "a", Kids: []api.Regex{a}},
		{Op: api.RStar}, seq(a), alt(a), alt(), seq(seq(a, b)), seq(a, seq(b)), star(api.Regex{}), {Kids: []api.Regex{{}}}, {Kids: []api.Regex{{}, {}}},
		chain(1000), chain(1001), chain(1002), wide(api.RSeq, 100001), wide(api.RSeq, 100002), wide(api.RAlt, 100001),
	}
	for i, x := range l {
		for j, y := range l {
			askSame(t, x, y, i == j)
		}
	}
	askSame(t, parsed(t, "a (b|c)* $d"), seq(a, star(alt(b, c)), class("d")), true)
	askSame(t, api.Regex{Op: api.RSeq, Kids: []api.Regex{}}, seq(), true)
	askSame(t, chain(65536), chain(65536), true)
	askSame(t, chain(65536), chain(65539), false)
	askSame(t, seq(wide(api.RAlt, 70000), a), seq(wide(api.RAlt, 70000), b), false)
}

func TestMatchOneKind(t *testing.T) {
	for _, l := range []struct {
		s    string
		path string
		want bool
	}{
		{"a", "", false}, {"a", "a", true}, {"a", "b", false}, {"a", "a a", false}, {"a", "b:a", false}, {"a", "a:b,c", true}, {"a", "A", false}, {"a", "aa", false},
		{"$a", "", false}, {"$a", "a", false}, {"$a", "b:a", true}, {"$a", "b:c,a,d", true}, {"$a", "b:c,d", false}, {"$a", "b:a c:a", false}, {"$a", "a:aa", false},
		{".", "", false}, {".", "a", true}, {".", "z:x,y", true}, {".", "a b", false},
		{"()", "", true}, {"()", "a", false}, {"()", "a b", false},
		{"a b", "a b", true}, {"a b", "b a", false}, {"a b", "a", false}, {"a b", "b", false}, {"a b", "", false}, {"a b", "a b b", false}, {"a b", "a a b", false},
		{"a|b", "a", true}, {"a|b", "b", true}, {"a|b", "c", false}, {"a|b", "a b", false}, {"a|b", "", false}, {"a|()", "", true}, {"a|()", "a", true}, {"()|()", "a", false},
		{"a*", "", true}, {"a*", "a", true}, {"a*", "a a a a", true}, {"a*", "a b a", false}, {"a*", "b", false},
		{"a+", "", false}, {"a+", "a", true}, {"a+", "a a a a", true}, {"a+", "a a b", false},
		{"a?", "", true}, {"a?", "a", true}, {"a?", "a a", false}, {"a?", "b", false},
	} {
		askMatch(t, l.s, l.path, l.want)
	}
}

func TestMatch(t *testing.T) {
	for _, l := range []struct {
		s    string
		path string
		want bool
	}{
		{"a.*", "a b", true}, {"a.*", "a", true}, {"a.*", "b a", false},
		{"a .* c", "a c", true}, {"a .* c", "a b b c", true}, {"a .* c", "a c a c", true}, {"a .* c", "a c a", false}, {"a .* c", "a", false}, {"a .* c", "c", false},
		{"(a b)*", "", true}, {"(a b)*", "a b a b", true}, {"(a b)*", "a b a", false}, {"(a b)+", "", false}, {"(a b)+", "a b a b a b", true},
		{"(a|b)* c", "a b b a c", true}, {"(a|b)* c", "c", true}, {"(a|b)* c", "a c b c", false},
		{"a? b? c?", "", true}, {"a? b? c?", "a c", true}, {"a? b? c?", "c a", false}, {"a? b? c?", "a b c", true},
		{"(a?)+", "", true}, {"(a*)+", "a a", true}, {"(a*)*", "a a", true}, {"((a?)*)+", "", true}, {"(()+)*", "", true}, {"(()*)+", "a", false},
		{"a? a? a", "a", true}, {"a? a? a", "a a a", true}, {"a? a? a", "a a a a", false}, {"a? a? a", "", false},
		{"(a (b|()))+ c", "a a b a c", true}, {"(a (b|()))+ c", "a b b c", false},
		{"$x a", "a:x a", true}, {"$x* $y", "a:x b:x,y c:y", true}, {"$x* $y", "a:x b:y c:x,y", false}, {"a$x|$x a", "b:x a", true},
		{". . .", "a b c", true}, {". . .", "a b", false}, {"(. .)*", "a b c", false}, {"(. .)*", "a b c d", true},
	} {
		askMatch(t, l.s, l.path, l.want)
	}
}

// Names and classes of devices are any texts.
func TestMatchOfAnyDevices(t *testing.T) {
	for _, w := range []api.Who{{}, {Name: "%"}, {Name: "a b"}, {Classes: []string{""}}, {Name: "$a", Classes: []string{"", "$a", "a "}}, {Name: strings.Repeat("a", 1<<16)}} {
		for s, want := range map[string]bool{"a": false, "$a": false, ".": true, "a|.": true, "()": false, ".*": true} {
			ok, e := regex.Match(parsed(t, s), w)
			same(t, s, ok, want)
			same(t, s+"'s error", e, api.OK)
		}
	}
	for _, path := range [][]api.Who{nil, {}} {
		ok, e := regex.Match(seq(), path...)
		same(t, "Match of no devices", ok && e == api.OK, true)
	}
	twice := who("b", "x", "x", "y", "x")
	ok, _ := regex.Match(seq(class("x"), class("y")), twice, twice)
	same(t, "Match of a class that stands twice", ok, true)
}

func TestMatchOfLongPaths(t *testing.T) {
	path := slices.Repeat([]api.Who{who("a", "x"), who("b")}, 50000)
	for s, want := range map[string]bool{"(a b)*": true, "($x b)+": true, ".* b": true, ".* a": false, "((a|b)*)*": true, "(a .)* (a b)+": true, "a b": false} {
		ok, e := regex.Match(parsed(t, s), path...)
		same(t, "Match of "+s, ok, want)
		same(t, "Match's error", e, api.OK)
	}
	ok, _ := regex.Match(chain(api.MaxDeep), slices.Repeat([]api.Who{who("a")}, 10000)...)
	same(t, "Match of the deepest", ok, true)
	ok, _ = regex.Match(wide(api.RSeq, api.MaxRegex-1), slices.Repeat([]api.Who{who("a")}, api.MaxRegex-1)...)
	same(t, "Match of the longest", ok, true)
	ok, _ = regex.Match(wide(api.RSeq, api.MaxRegex-1), slices.Repeat([]api.Who{who("a")}, api.MaxRegex)...)
	same(t, "Match of one more", ok, false)
	// Many ways to be one.
	many := seq(append(slices.Repeat([]api.Regex{opt(a)}, 300), slices.Repeat([]api.Regex{a}, 300)...)...)
	for n, want := range map[int]bool{299: false, 300: true, 450: true, 600: true, 601: false} {
		ok, _ := regex.Match(many, slices.Repeat([]api.Who{who("a")}, n)...)
		same(t, "Match of many", ok, want)
	}
}

func TestNames(t *testing.T) {
	askNames(t, anyOne(), "", "")
	askNames(t, seq(), "", "")
	askNames(t, a, "a", "")
	askNames(t, class("a"), "", "a")
	askNames(t, parsed(t, "a .* $core (b|c)+"), "a b c", "core")
	askNames(t, parsed(t, "c b a"), "a b c", "")
	askNames(t, parsed(t, "a b a|b* a+"), "a b", "")
	askNames(t, parsed(t, "$y $x ($y|$z)? x y"), "x y", "x y z")
	askNames(t, parsed(t, "b ab a aa B _ a-b a1 a_b"), "B _ a a-b a1 a_b aa ab b", "")
	askNames(t, wide(api.RAlt, api.MaxRegex-1), "a", "")
	askNames(t, chain(api.MaxDeep), "a", "")
}
