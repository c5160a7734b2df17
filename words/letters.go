package words

import "strings"

// longestSign is how many bytes a sign has at most.
const longestSign = 2

func digit(b byte) bool { return '0' <= b && b <= '9' }

func letter(b byte) bool {
	return 'a' <= b && b <= 'z' || 'A' <= b && b <= 'Z' || digit(b) || b == '_' || b == '-'
}

// letters is how many letters a text begins with, up to the sign that begins like one.
func letters(s string) int {
	n := 0
	for n < len(s) && letter(s[n]) && !strings.HasPrefix(s[n:], "->") {
		n++
	}
	return n
}

// first is how many bytes the word has with which a text begins; 0: none begins there.
func first(s string) int {
	for n := min(longestSign, len(s)); n > 0; n-- {
		if Sign(s[:n]) {
			return n
		}
	}
	return letters(s)
}

func isWord(s string) bool { return s != "" && first(s) == len(s) }

// mayTouch tells whether two words are read as themselves without a blank between them. (Two of letters never are.)
func mayTouch(a, b string) bool { return first(a+b) == len(a) }
