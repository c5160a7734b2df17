package words_test

import (
	"fmt"
	"slices"
	"strings"
	"testing"
	"unsafe"

	"milestone/api"
	"milestone/words"
)

// askFault asks for an error at its place, and that beside it there are no words.
func askFault(t *testing.T, s string, line, col int, want api.Errno) {
	t.Helper()
	l, gotLine, gotCol, e := words.Lines(s)
	if gotLine != line || gotCol != col || e != want || len(l) != 0 {
		t.Errorf("Lines(%.40q): %d at %d, %d beside %d lines, want %d at %d, %d", s, e, gotLine, gotCol, len(l), want, line, col)
	}
}

// begins tells whether a byte is one with which a word begins.
func begins(b byte) bool {
	return strings.IndexByte(allLetters, b) >= 0 || strings.IndexByte(strings.ReplaceAll(allSigns, " ", ""), b) >= 0
}

// between tells whether a byte may stand there without being one of a word.
func between(b byte) bool { return b == ' ' || b == '\t' || b == '\n' || b == '#' }

// P3.1

func TestEachByte(t *testing.T) {
	for b := range 256 {
		s := string([]byte{byte(b)})
		switch {
		case begins(byte(b)):
			askLines(t, s, s+"@1:1")
			askLines(t, "\n  "+s, s+"@2:3")
		case between(byte(b)):
			askLines(t, s)
		default:
			askFault(t, s, 1, 1, api.ErrByte)
			askFault(t, "a\n\n b"+s, 3, 3, api.ErrByte)
			askFault(t, "a\n ("+s+"b", 2, 3, api.ErrByte)
			askFault(t, s+"# a", 1, 1, api.ErrByte)
			askFault(t, "a # a\n\t"+s, 2, 2, api.ErrByte)
			askLines(t, "a #"+s+"\nb", "a@1:1", "b@2:1")
		}
	}
}

func TestFaults(t *testing.T) {
	askFault(t, "a%", 1, 2, api.ErrByte)
	askFault(t, "!", 1, 1, api.ErrByte)
	askFault(t, "a != b", 1, 3, api.ErrByte)
	askFault(t, "a & b", 1, 3, api.ErrByte)
	askFault(t, "a\r\nb\r\n", 1, 2, api.ErrByte)
	askFault(t, "caf\u00e9", 1, 4, api.ErrByte)
	askFault(t, "a # %\n \tb%", 2, 4, api.ErrByte)
	askFault(t, "a % # b", 1, 3, api.ErrByte)
	askFault(t, "%#%", 1, 1, api.ErrByte)
	askFault(t, "\n\n\n<=%", 4, 3, api.ErrByte)
	askFault(t, "->%", 1, 3, api.ErrByte)
	askFault(t, "-%>", 1, 2, api.ErrByte)
	askFault(t, "=\x00=", 1, 2, api.ErrByte)
	askFault(t, "abc\n\x80", 2, 1, api.ErrByte)
}

func TestFirstFaultFirst(t *testing.T) {
	askFault(t, "a % !", 1, 3, api.ErrByte)
	askFault(t, "a\nb !\n%", 2, 3, api.ErrByte)
	long := strings.Repeat("a", api.MaxText)
	askFault(t, "%"+long[1:], 1, 1, api.ErrByte)
	askFault(t, long[1:]+"%", 1, api.MaxText, api.ErrByte)
	askFault(t, "%"+long, 0, 0, api.ErrLong)
	askFault(t, long+"%", 0, 0, api.ErrLong)
	askFault(t, strings.Repeat("%", api.MaxText+1), 0, 0, api.ErrLong)
	askFault(t, strings.Repeat("\n", api.MaxText-1)+"%", api.MaxText, 1, api.ErrByte)
}

// Each byte at all places of a text that is handed to the calls that take one word.
func TestOneWordOfEachByte(t *testing.T) {
	for b := range 256 {
		s := string([]byte{byte(b)})
		isLetter := strings.IndexByte(allLetters, byte(b)) >= 0
		isDigit := '0' <= b && b <= '9'
		same(t, fmt.Sprintf("Name(%q)", s), words.Name(s), isLetter && !isDigit && b != '-')
		same(t, fmt.Sprintf("Name(%q)", "a"+s), words.Name("a"+s), isLetter)
		same(t, fmt.Sprintf("Name(%q)", "a"+s+"b"), words.Name("a"+s+"b"), isLetter)
		for _, n := range []string{s, "1" + s, "1" + s + "2"} {
			_, e := words.Number(n)
			same(t, fmt.Sprintf("Number(%q) is one", n), e == api.OK, isDigit)
		}
		_, e := words.Say(s)
		same(t, fmt.Sprintf("%q is said", s), e == api.OK, begins(byte(b)))
		_, e = words.Say("a" + s)
		same(t, fmt.Sprintf("%q is said", "a"+s), e == api.OK, isLetter)
	}
}

// Nothing is kept, nothing that is handed in is changed, and no two answers share memory.
func TestNothingKept(t *testing.T) {
	const text = "a b\nc\n(d)"
	first, _, _, _ := words.Lines(text)
	want := told(first)
	for _, line := range first {
		_ = append(line, api.Word{Text: "behind"})
		same(t, "lines behind one that has grown", slices.Equal(told(first), want), true)
	}
	for _, line := range first {
		for i := range line {
			line[i] = api.Word{Text: "spoilt"}
		}
	}
	askLines(t, text, want...)

	given := make([]string, 2, 4)
	given[0], given[1] = "a", "b"
	spare := given[:4]
	spare[2], spare[3] = "behind", "it"
	askSay(t, "a b", given...)
	same(t, "what was handed in", strings.Join(spare, " "), "a b behind it")
}

// lies tells whether a text's first byte is one of another's, in memory.
func lies(part, whole string) bool {
	at, from := uintptr(unsafe.Pointer(unsafe.StringData(part))), uintptr(unsafe.Pointer(unsafe.StringData(whole)))
	return from <= at && at < from+uintptr(len(whole))
}

// What is answered is no piece of the text that was handed in.
func TestNewMemory(t *testing.T) {
	given := strings.Repeat("name -> (\n", 3)
	for _, w := range textsIn(t, given) {
		same(t, "a piece of the text: "+w, lies(w, given), false)
	}
	said, _ := words.Say(given[:4])
	same(t, "a piece of what is said", lies(said, given), false)
}

// A refused call leaves no trace in the next one.
func TestAfterError(t *testing.T) {
	askFault(t, "a\nb %", 2, 3, api.ErrByte)
	askLines(t, "a\nb", "a@1:1", "b@2:1")
	askFault(t, "%", 1, 1, api.ErrByte)
	words.Say("a", "%")
	askSay(t, "b", "b")
}
