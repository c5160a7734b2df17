package words_test

import (
	"fmt"
	"slices"
	"strings"
	"testing"

	"milestone/api"
	"milestone/words"
)

const allSigns = "== <= >= -> ( ) , | * + ? . $ = < >"

const allLetters = "abcdefghijklmnopqrstuvwxyzABCDEFGHIJKLMNOPQRSTUVWXYZ0123456789_-"

func same(t *testing.T, what string, got, want any) {
	t.Helper()
	if got != want {
		t.Errorf("%s = %v, want %v", what, got, want)
	}
}

// askLines asks for a text's words, a line's with blanks between them, each as TEXT@LINE:COLUMN.
func askLines(t *testing.T, s string, want ...string) {
	t.Helper()
	l, line, col, e := words.Lines(s)
	if line != 0 || col != 0 || e != api.OK {
		t.Errorf("Lines(%.40q): fault %d at %d, %d", s, e, line, col)
	}
	if got := told(l); !slices.Equal(got, want) {
		t.Errorf("Lines(%.40q) = %q, want %q", s, got, want)
	}
}

// told are lines in the form of askLines.
func told(l [][]api.Word) []string {
	var out []string
	for _, line := range l {
		var parts []string
		for _, w := range line {
			parts = append(parts, fmt.Sprintf("%s@%d:%d", w.Text, w.Line, w.Col))
		}
		out = append(out, strings.Join(parts, " "))
	}
	return out
}

// textsIn are the texts of all words of a text without a fault.
func textsIn(t *testing.T, s string) []string {
	t.Helper()
	l, _, _, e := words.Lines(s)
	same(t, fmt.Sprintf("Lines(%.40q)'s error", s), e, api.OK)
	var out []string
	for _, line := range l {
		for _, w := range line {
			out = append(out, w.Text)
		}
	}
	return out
}

// askTexts asks for the texts of all words, told with blanks between them.
func askTexts(t *testing.T, s, want string) {
	t.Helper()
	same(t, fmt.Sprintf("words of %q", s), strings.Join(textsIn(t, s), " "), want)
}

// P3.1

func TestLinesOfTheDocument(t *testing.T) {
	askLines(t, "a->b (c|d)*", "a@1:1 ->@1:2 b@1:4 (@1:6 c@1:7 |@1:8 d@1:9 )@1:10 *@1:11")
	askLines(t, "x-1 <=2", "x-1@1:1 <=@1:5 2@1:7")
}

func TestLinesWithoutWords(t *testing.T) {
	for _, s := range []string{"", "\n", "\n\n\n", " ", "\t", " \t \n\t", "#", "# a\n#b\n", "\n #\xff\n\n"} {
		askLines(t, s)
	}
}

func TestLinesThatHaveSomeAlone(t *testing.T) {
	askLines(t, "\n\na b\n\n \t\n# no\nc\n", "a@3:1 b@3:3", "c@7:1")
	askLines(t, "a#b\n#\nc d #", "a@1:1", "c@3:1 d@3:3")
}

func TestLastLine(t *testing.T) {
	askLines(t, "a\nb", "a@1:1", "b@2:1")
	askLines(t, "a\nb\n", "a@1:1", "b@2:1")
	askLines(t, "a\nb\n\n", "a@1:1", "b@2:1")
	askLines(t, "a", "a@1:1")
	askLines(t, "a\n", "a@1:1")
}

func TestColumnsCountBytes(t *testing.T) {
	askLines(t, "\t\ta \t b\n  c\td", "a@1:3 b@1:7", "c@2:3 d@2:5")
	askLines(t, "abc==de <=f", "abc@1:1 ==@1:4 de@1:6 <=@1:9 f@1:11")
	askLines(t, "# \xc3\xa9 a\n b", "b@2:2")
}

func TestRemarks(t *testing.T) {
	askLines(t, "a # b c\nd", "a@1:1", "d@2:1")
	askLines(t, "a## # b", "a@1:1")
	askLines(t, "(#)", "(@1:1")
	askLines(t, "-#>", "-@1:1")
	askLines(t, "<#=\n=", "<@1:1", "=@2:1")
	var remark strings.Builder
	for b := range 256 {
		if b != '\n' {
			remark.WriteByte(byte(b))
		}
	}
	askLines(t, "a#"+remark.String(), "a@1:1")
	askLines(t, "#"+remark.String()+"\nb", "b@2:1")
	askLines(t, "a #"+remark.String()+"\n"+"c", "a@1:1", "c@2:1")
}

func TestLinesOfLetters(t *testing.T) {
	askTexts(t, allLetters, allLetters)
	askTexts(t, "a1 1a -a _ -- - 007 A-Z", "a1 1a -a _ -- - 007 A-Z")
	askTexts(t, strings.Repeat("a", 65), strings.Repeat("a", 65))
	askTexts(t, "2147483648", "2147483648")
}

func TestLinesOfSigns(t *testing.T) {
	askTexts(t, allSigns, allSigns)
	for _, l := range [][2]string{
		{"===", "== ="}, {"====", "== =="}, {"= =", "= ="}, {"=\t==", "= =="},
		{"<==", "<= ="}, {">==", ">= ="}, {"=<=", "= <="}, {"<>=", "< >="}, {"><", "> <"},
		{"=>", "= >"}, {"=<", "= <"}, {">>=", "> >="}, {"<<=", "< <="}, {"<->", "< ->"},
		{"(),|*+?.$=<>", "( ) , | * + ? . $ = < >"}, {"..*", ". . *"}, {"$a", "$ a"}, {"a,b", "a , b"},
	} {
		askTexts(t, l[0], l[1])
	}
}

func TestLinesOfArrows(t *testing.T) {
	for _, l := range [][2]string{
		{"->", "->"}, {"- >", "- >"}, {"-\t>", "- >"}, {"-", "-"}, {"--", "--"},
		{"a->b", "a -> b"}, {"a->", "a ->"}, {"->b", "-> b"}, {"-->", "- ->"}, {"--->", "-- ->"},
		{"a-->b", "a- -> b"}, {"->-", "-> -"}, {"->->", "-> ->"}, {"->>", "-> >"}, {"->=", "-> ="},
		{"->==", "-> =="}, {"->>=", "-> >="}, {"a-b->c-d", "a-b -> c-d"}, {"-a>", "-a >"}, {"1->2", "1 -> 2"},
		{"-\n>", "- >"},
	} {
		askTexts(t, l[0], l[1])
	}
}

func TestLongText(t *testing.T) {
	for _, part := range []string{"a", "(", " ", "\n", "#", "-", "a\n", "->", "a b\n(\n#c "} {
		whole := strings.Repeat(part, api.MaxText/len(part)+1)[:api.MaxText]
		_, line, col, e := words.Lines(whole)
		same(t, "error of a text of MaxText bytes", [3]int{line, col, int(e)}, [3]int{})
		askFault(t, whole+"a", 0, 0, api.ErrLong)
		askFault(t, whole+"\n", 0, 0, api.ErrLong)
	}
	word := strings.Repeat("a", api.MaxText)
	askLines(t, word, word+"@1:1")
	askLines(t, strings.Repeat("\n", api.MaxText-1)+"a", fmt.Sprintf("a@%d:1", api.MaxText))
	askLines(t, strings.Repeat(" ", api.MaxText-1)+"a", fmt.Sprintf("a@1:%d", api.MaxText))
	same(t, "words of a text of MaxText signs", len(textsIn(t, strings.Repeat("(", api.MaxText))), api.MaxText)
}

// P3.2

func TestName(t *testing.T) {
	for _, s := range []string{
		"a", "Z", "_", "a-1_", "_1", "a-", "a--", "rule", "A9",
		strings.Repeat("a", 64), "_" + strings.Repeat("-", 63),
	} {
		same(t, "Name("+s+")", words.Name(s), true)
	}
	for _, s := range []string{
		"", "1", "1a", "-", "-a", "--", "0", "a b", "a ", " a", "a\n", "a#", "a.", "a->", "a->b", "->", "=", "é", "a\x00", "aé",
		strings.Repeat("a", 65), strings.Repeat("a", 1000), strings.Repeat("a", 63) + "é", strings.Repeat("a", 63) + " ",
	} {
		same(t, "Name("+s+")", words.Name(s), false)
	}
}

func TestNumber(t *testing.T) {
	for n, s := range map[int]string{
		0: "0", 1: "1", 9: "9", 10: "10", 100: "100", 1234567890: "1234567890",
		2147483639: "2147483639", 2147483646: "2147483646", 2147483647: "2147483647",
	} {
		got, e := words.Number(s)
		same(t, "Number("+s+")", got, n)
		same(t, "Number("+s+")'s error", e, api.OK)
	}
	for _, s := range []string{
		"", "00", "01", "007", "0a", "-", "-0", "-1", "+1", "+", "_", "1_0", "0x1", "1e3", "1.0", "a", "1a", " 1", "1 ", "1\n", "١",
		"2147483648", "2147483650", "2200000000", "3000000000", "9999999999", "10000000000",
		"4294967296", "4294967297", "18446744073709551616", "18446744073709551617", "36893488147419103232",
		strings.Repeat("9", 100000), "1" + strings.Repeat("0", 64), strings.Repeat("0", 100),
	} {
		got, e := words.Number(s)
		same(t, fmt.Sprintf("Number(%.40q)", s), got, 0)
		same(t, fmt.Sprintf("Number(%.40q)'s error", s), e, api.ErrNumber)
	}
}

func TestSign(t *testing.T) {
	signs := strings.Fields(allSigns)
	for _, s := range signs {
		same(t, "Sign("+s+")", words.Sign(s), true)
	}
	for _, s := range []string{
		"", "a", "1", "-", "--", "<-", "=<", "=>", "<>", "><", "!=", "!", "&", "&&", "||", "#", " ", "= ", " =", "()", "===", "->>", "=\x00", "\xff",
	} {
		same(t, fmt.Sprintf("Sign(%q)", s), words.Sign(s), false)
	}
	for a := range 256 {
		one := string([]byte{byte(a)})
		same(t, fmt.Sprintf("Sign(%q)", one), words.Sign(one), slices.Contains(signs, one))
		for b := range 256 {
			two := one + string([]byte{byte(b)})
			if words.Sign(two) != slices.Contains(signs, two) {
				t.Errorf("Sign(%q)", two)
			}
		}
	}
}

// P3.3

func askSay(t *testing.T, want string, l ...string) {
	t.Helper()
	got, e := words.Say(l...)
	same(t, fmt.Sprintf("Say(%q)", l), got, want)
	same(t, fmt.Sprintf("Say(%q)'s error", l), e, api.OK)
}

func TestSay(t *testing.T) {
	askSay(t, "")
	askSay(t, "a->b", "a", "->", "b")
	askSay(t, "a b", "a", "b")
	askSay(t, "< =", "<", "=")
	askSay(t, "- >", "-", ">")
	for _, w := range append(strings.Fields(allSigns), "a", "-", "--", "_", "0", "-1", "007", strings.Repeat("a", 65)) {
		askSay(t, w, w)
	}
	askSay(t, "rule 5 10x any(p1,p2)", "rule", "5", "10x", "any", "(", "p1", ",", "p2", ")")
	askSay(t, "a.*$core(b|c)+", "a", ".", "*", "$", "core", "(", "b", "|", "c", ")", "+")
	askSay(t, "hops 3 count>=1 path a", "hops", "3", "count", ">=", "1", "path", "a")
}

func TestSayBlanks(t *testing.T) {
	for _, l := range [][]string{
		{"= =", "=", "="}, {"= ==", "=", "=="}, {"===", "==", "="}, {"====", "==", "=="}, {"= = =", "=", "=", "="}, {"=== =", "==", "=", "="},
		{"< ==", "<", "=="}, {"<==", "<=", "="}, {"> =", ">", "="}, {"> ==", ">", "=="}, {">==", ">=", "="},
		{"=<=", "=", "<="}, {"=>", "=", ">"}, {"<>", "<", ">"}, {"<->", "<", "->"},
		{"a- >", "a-", ">"}, {"- >=", "-", ">="}, {"a- >=", "a-", ">="}, {"-->", "-", "->"}, {"a-->", "a-", "->"}, {"-- >", "--", ">"},
		{"->-", "->", "-"}, {"->>", "->", ">"}, {"->=", "->", "="}, {"->==", "->", "=="}, {"->->", "->", "->"}, {"->- >", "->", "-", ">"},
		{"- -", "-", "-"}, {"- a", "-", "a"}, {"a -", "a", "-"}, {"1 2", "1", "2"}, {"_ 0", "_", "0"}, {"a - >", "a", "-", ">"},
		{"a>", "a", ">"}, {">a", ">", "a"}, {"a=b", "a", "=", "b"}, {"((", "(", "("},
	} {
		askSay(t, l[0], l[1:]...)
	}
}

// No word is too long to be said, though what is said be too long to be read.
func TestSayOfLongWords(t *testing.T) {
	long := strings.Repeat("a", api.MaxText+1)
	askSay(t, long, long)
	askSay(t, long+" "+long+"->", long, long, "->")
}

func TestSayRefuses(t *testing.T) {
	for _, s := range []string{
		"", " ", "\t", "\n", " a", "a ", "a b", "a\n", "a,b", "a->b", "a->", "->a", "-->", "()", "===", "->>", "- >", "#", "a#", "#a",
		"%", "!", "&", "!=", "\x00", "\xff", "é", "aé", "a%", "\r", "a\r",
	} {
		for _, l := range [][]string{{s}, {s, "a"}, {"a", s}, {"a", "->", s, "b"}, {s, s}} {
			got, e := words.Say(l...)
			same(t, fmt.Sprintf("Say(%q)", l), got, "")
			same(t, fmt.Sprintf("Say(%q)'s error", l), e, api.ErrName)
		}
	}
}
