package invar

import (
	"strconv"
	"strings"

	"milestone/api"
	"milestone/regex"
	"milestone/words"
)

// text is the lines of invariants that may be.
func text(l []api.Invariant) string {
	var b strings.Builder
	for _, v := range l {
		// Words of an invariant that may be are never refused.
		line, _ := words.Say(lineWords(v)...)
		b.WriteString(line)
		b.WriteByte('\n')
	}
	return b.String()
}

// lineWords are those of an invariant that may be.
func lineWords(v api.Invariant) []string {
	l := []string{"invariant", v.Name, "packets", v.Packets}
	mark := "from"
	for _, name := range v.Ingress {
		l = append(l, mark, name)
		mark = ","
	}
	l = append(l, "hops", strconv.Itoa(v.Hops), "count", signOf(v.Compare), strconv.Itoa(v.Count), "path")
	return append(l, pathWords(v.Path)...)
}

// pathWords are those of a path expression that may be.
func pathWords(x api.Regex) []string {
	// Its text is never refused: it has at most MaxRegex names, far fewer bytes than MaxText.
	s, _ := regex.Print(x)
	lines, _, _, _ := words.Lines(s)
	var l []string
	for _, line := range lines {
		for _, w := range line {
			l = append(l, w.Text)
		}
	}
	return l
}
