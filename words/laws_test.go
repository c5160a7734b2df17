package words_test

import (
	"fmt"
	"regexp"
	"slices"
	"strings"
	"testing"

	"milestone/api"
	"milestone/words"
)

// begin is a row of letters, or a sign, as the document lists them.
var begin = regexp.MustCompile(`^(?:[a-zA-Z0-9_-]+|==|<=|>=|->|[(),|*+?.$=<>])`)

// wordByWords is the word with which a text begins, as the document says it.
func wordByWords(s string) string {
	if strings.HasPrefix(s, "->") {
		return "->"
	}
	w := begin.FindString(s)
	if strings.HasSuffix(w, "-") && strings.HasPrefix(s[len(w):], ">") {
		return w[:len(w)-1]
	}
	return w
}

// linesByWords is Lines of a short text, as the document says it.
func linesByWords(s string) ([][]api.Word, int, int, api.Errno) {
	var out [][]api.Word
	for n, line := range strings.Split(s, "\n") {
		var l []api.Word
		for i := 0; i < len(line) && line[i] != '#'; {
			if line[i] == ' ' || line[i] == '\t' {
				i++
				continue
			}
			w := wordByWords(line[i:])
			if w == "" {
				return nil, n + 1, i + 1, api.ErrByte
			}
			l = append(l, api.Word{Text: w, Line: n + 1, Col: i + 1})
			i += len(w)
		}
		if len(l) > 0 {
			out = append(out, l)
		}
	}
	return out, 0, 0, api.OK
}

// eachText goes through all texts of at most so many of the bytes.
func eachText(bytes string, most int, do func(s string)) {
	var grow func(s string)
	grow = func(s string) {
		do(s)
		if len(s) == most {
			return
		}
		for i := range len(bytes) {
			grow(s + bytes[i:i+1])
		}
	}
	grow("")
}

// P3.1, of all short texts.
func TestLinesByWords(t *testing.T) {
	eachText("a0-=<>(# \n%\xff", 5, func(s string) {
		l, line, col, e := words.Lines(s)
		wantL, wantLine, wantCol, wantE := linesByWords(s)
		if line != wantLine || col != wantCol || e != wantE || !slices.EqualFunc(l, wantL, slices.Equal[[]api.Word]) {
			t.Fatalf("Lines(%q) = %v, %d, %d, %d, want %v, %d, %d, %d", s, l, line, col, e, wantL, wantLine, wantCol, wantE)
		}
	})
}

// P3.3, of all short texts: a word is what is read as one, and is all of the text.
func TestSayTakesWordsAlone(t *testing.T) {
	eachText("a0-=<>(# \n%", 4, func(s string) {
		got, e := words.Say(s)
		want, wantE := s, api.OK
		if s == "" || wordByWords(s) != s {
			want, wantE = "", api.ErrName
		}
		if got != want || e != wantE {
			t.Fatalf("Say(%q) = %q, %d, want %q, %d", s, got, e, want, wantE)
		}
	})
}

// someWords are all signs, and letters of all kinds, with - at either end.
var someWords = append(strings.Fields(allSigns), "a", "-", "--", "a-", "-a", "0", "_", "x-1")

// eachRow goes through all rows of at most three words.
func eachRow(do func(l []string)) {
	do(nil)
	for _, a := range someWords {
		do([]string{a})
		for _, b := range someWords {
			do([]string{a, b})
			for _, c := range someWords {
				do([]string{a, b, c})
			}
		}
	}
}

// lettersAlone tells whether a word is made of letters.
func lettersAlone(w string) bool { return strings.Trim(w, allLetters) == "" }

// touch tells by the document's words whether two stand side by side without a blank.
func touch(a, b string) bool {
	return !(lettersAlone(a) && lettersAlone(b)) && wordByWords(a+b) == a && wordByWords((a + b)[len(a):]) == b
}

// P3.3: a blank stands just where it must.
func TestSayByWords(t *testing.T) {
	eachRow(func(l []string) {
		want := ""
		for i, w := range l {
			if i > 0 && !touch(l[i-1], w) {
				want += " "
			}
			want += w
		}
		if got, e := words.Say(l...); got != want || e != api.OK {
			t.Fatalf("Say(%q) = %q, %d, want %q", l, got, e, want)
		}
	})
}

// P3.4, and that no blank of Say could be left out.
func TestThereAndBack(t *testing.T) {
	eachRow(func(l []string) {
		s, e := words.Say(l...)
		if got := textsIn(t, s); e != api.OK || !slices.Equal(got, l) {
			t.Fatalf("words of Say(%q) = %q, %d", l, got, e)
		}
		for i := range len(s) {
			if s[i] == ' ' && slices.Equal(textsIn(t, s[:i]+s[i+1:]), l) {
				t.Fatalf("Say(%q) = %q: a blank too many", l, s)
			}
		}
	})
}

// P3.4, of what is read and said again: what Say writes is the shortest text of these words.
func TestReadAndSaid(t *testing.T) {
	eachText("a-=<>( ", 6, func(s string) {
		l := textsIn(t, s)
		said, e := words.Say(l...)
		if again := textsIn(t, said); e != api.OK || !slices.Equal(again, l) || len(said) > len(s) {
			t.Fatalf("Say of the words of %q = %q, %d", s, said, e)
		}
	})
}

// P3.5

func TestMoreBlanksChangeNoWord(t *testing.T) {
	eachRow(func(l []string) {
		s, _ := words.Say(l...)
		for _, blank := range []string{" ", "\t", "  ", " \t ", "\t\t \t"} {
			wide := strings.Join(l, blank)
			for _, w := range []string{wide, blank + wide, wide + blank, blank + wide + blank + "\n"} {
				if got := textsIn(t, w); !slices.Equal(got, l) {
					t.Fatalf("words of %q = %q, those of %q are %q", w, got, s, l)
				}
			}
		}
	})
}

func TestRemarksChangeNoWord(t *testing.T) {
	eachRow(func(l []string) {
		s, _ := words.Say(l...)
		want, _, _, _ := words.Lines(s + "\n\nlast")
		for _, remark := range []string{"#", "#a", " # -> %", "\t#\xff\x00#", "#" + s} {
			got, _, _, e := words.Lines(s + remark + "\n" + remark + "\nlast" + remark)
			if e != api.OK || !slices.EqualFunc(got, want, slices.Equal[[]api.Word]) {
				t.Fatalf("Lines of %q with %q behind it = %v, %d, want %v", s, remark, got, e, want)
			}
		}
	})
}

// The same text is always answered alike.
func TestAgain(t *testing.T) {
	for _, s := range []string{"", "a->b (c|d)*\n# none\nx-1 <=2", "a\n%"} {
		l, line, col, e := words.Lines(s)
		for range 3 {
			again, line2, col2, e2 := words.Lines(s)
			same(t, fmt.Sprintf("Lines(%q) again", s), fmt.Sprint(again, line2, col2, e2), fmt.Sprint(l, line, col, e))
		}
	}
}
