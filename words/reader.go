package words

import (
	"strings"

	"milestone/api"
)

// place is a line and a column of a text, from 1 on: ahead of the first line both are 0.
type place struct {
	line int
	col  int
}

func (p *place) nextLine() { p.line, p.col = p.line+1, 1 }

func (p *place) pass(bytes int) { p.col += bytes }

// reader reads a text line by line. At a fault it panics, and its place is the fault's.
type reader struct {
	place
	rest string // what of the line is not read yet
}

// read are the words of a text's lines, or the place of its first fault.
func read(s string) (l [][]api.Word, fault place, e api.Errno) {
	var r reader
	defer func() {
		if recover() != nil {
			l, fault, e = nil, r.place, api.ErrByte
		}
	}()
	for more := true; more; {
		var line string
		line, s, more = strings.Cut(s, "\n")
		if words := r.words(line); len(words) > 0 {
			l = append(l, words)
		}
	}
	return l, place{}, api.OK
}

// words are those of the next line.
func (r *reader) words(line string) []api.Word {
	r.nextLine()
	r.rest, _, _ = strings.Cut(line, "#")
	var l []api.Word
	for r.skip(); r.rest != ""; r.skip() {
		l = append(l, r.word())
	}
	return l
}

// skip goes on to what is no blank.
func (r *reader) skip() {
	rest := strings.TrimLeft(r.rest, " \t")
	r.pass(len(r.rest) - len(rest))
	r.rest = rest
}

// word is the one that begins here.
func (r *reader) word() api.Word {
	n := first(r.rest)
	if n == 0 {
		panic(api.ErrByte)
	}
	// A copy, since a piece of the text would keep all of it.
	w := api.Word{Text: strings.Clone(r.rest[:n]), Line: r.line, Col: r.col}
	r.pass(n)
	r.rest = r.rest[n:]
	return w
}
