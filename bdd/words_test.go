package bdd_test

import (
	"slices"
	"strings"
	"testing"

	"milestone/api"
	"milestone/bdd"
)

// Here a function of W bits is a text of 2^W letters: letter i, from 0 on, is 1 if it holds of the header that is i as a number of two digits, bit 0 the first digit. What is left of it where bit 0 is 0, and 1, are its two halves.

// makeTable makes a table that may be made.
func makeTable(t *testing.T, bits, limit int) *bdd.Table {
	t.Helper()
	x, e := bdd.New(bits, limit)
	if x == nil || e != api.OK {
		t.Fatalf("New(%d, %d): %v, %v", bits, limit, x, e)
	}
	return x
}

// made is a ref that a call told without an error.
func made(t *testing.T) func(r api.Ref, e api.Errno) api.Ref {
	return func(r api.Ref, e api.Errno) api.Ref {
		t.Helper()
		if e != api.OK {
			t.Fatal(e)
		}
		return r
	}
}

// textsOf are all texts of so many of the letters, in the letters' order.
func textsOf(letters string, width int) []string {
	out := []string{""}
	for range width {
		var longer []string
		for _, s := range out {
			for _, r := range letters {
				longer = append(longer, s+string(r))
			}
		}
		out = longer
	}
	return out
}

// textOf is the text of what tells of each header yes or no.
func textOf(bits int, holds func(header string) bool) string {
	var b strings.Builder
	for _, h := range textsOf("01", bits) {
		if holds(h) {
			b.WriteByte('1')
		} else {
			b.WriteByte('0')
		}
	}
	return b.String()
}

// fits tells whether a header has a text's letters where these are not x.
func fits(header, s string) bool {
	for i := range len(s) {
		if s[i] != 'x' && s[i] != header[i] {
			return false
		}
	}
	return true
}

// joined is a text, letter by letter worked out of others.
func joined(how func(l []bool) bool, size int, l ...string) string {
	out := make([]byte, size)
	for i := range out {
		var letters []bool
		for _, s := range l {
			letters = append(letters, s[i] == '1')
		}
		out[i] = '0'
		if how(letters) {
			out[i] = '1'
		}
	}
	return string(out)
}

func all(l []bool) bool { return !slices.Contains(l, false) }
func one(l []bool) bool { return slices.Contains(l, true) }
func not(l []bool) bool { return !l[0] }
func diff(l []bool) bool {
	return l[0] && !l[1]
}
func ite(l []bool) bool {
	if l[0] {
		return l[1]
	}
	return l[2]
}

// ownNode is a text without the bits in front on which it does not hang: one letter, if it is an end.
func ownNode(s string) string {
	for len(s) > 1 && s[:len(s)/2] == s[len(s)/2:] {
		s = s[:len(s)/2]
	}
	return s
}

// bitOf is the bit on which a text of a node hangs first.
func bitOf(s string, bits int) int {
	bit := bits
	for ; len(s) > 1; s = s[:len(s)/2] {
		bit--
	}
	return bit
}

// nodesOf are the texts of the nodes of a function, in the order of its list, behind those that are there already.
func nodesOf(s string, there []string) []string {
	s = ownNode(s)
	if len(s) == 1 || slices.Contains(there, s) {
		return there
	}
	there = nodesOf(s[:len(s)/2], there)
	there = nodesOf(s[len(s)/2:], there)
	return append(there, s)
}

// listOf is the list of a function.
func listOf(s string, bits int) []api.Node {
	l := nodesOf(s, nil)
	number := func(s string) int {
		s = ownNode(s)
		if len(s) == 1 {
			return int(s[0] - '0')
		}
		return slices.Index(l, s) + 2
	}
	var out []api.Node
	for _, s := range l {
		out = append(out, api.Node{Bit: bitOf(s, bits), Low: number(s[:len(s)/2]), High: number(s[len(s)/2:])})
	}
	return out
}

// cubesOf are the letters of each way to yes, those by Low first.
func cubesOf(s string, bits int) []string {
	var out []string
	var walk func(s string, letters []byte)
	walk = func(s string, letters []byte) {
		s = ownNode(s)
		if s == "1" {
			out = append(out, string(letters))
		}
		if len(s) == 1 {
			return
		}
		bit := bitOf(s, bits)
		for i, half := range []string{s[:len(s)/2], s[len(s)/2:]} {
			longer := slices.Clone(letters)
			longer[bit] = "01"[i]
			walk(half, longer)
		}
	}
	walk(s, []byte(strings.Repeat("x", bits)))
	return out
}

// anyOf is Any by the document's words.
func anyOf(s string, bits int) (string, bool) {
	letters := []byte(strings.Repeat("x", bits))
	s = ownNode(s)
	if s == "0" {
		return "", false
	}
	for len(s) > 1 {
		bit := bitOf(s, bits)
		low, high := ownNode(s[:len(s)/2]), ownNode(s[len(s)/2:])
		if low != "0" {
			letters[bit], s = '0', low
		} else {
			letters[bit], s = '1', high
		}
	}
	return string(letters), true
}

// everyFunction puts all functions of so many bits into a table, each from its headers: the refs by texts.
func everyFunction(t *testing.T, x *bdd.Table) ([]string, map[string]api.Ref) {
	t.Helper()
	refs := map[string]api.Ref{}
	headers := textsOf("01", x.Bits())
	texts := textsOf("01", len(headers))
	for _, s := range texts {
		var l []api.Ref
		for i, h := range headers {
			if s[i] == '1' {
				l = append(l, made(t)(x.Cube(h)))
			}
		}
		refs[s] = made(t)(x.Or(l...))
	}
	return texts, refs
}
