package rules

import (
	"slices"

	"milestone/api"
	"milestone/cube"
	"milestone/words"
)

// fault is what is wrong with a text, and where.
type fault struct {
	line int
	col  int
	err  api.Errno
}

// reader reads lines word by word. At the first fault it takes that down, and panics.
type reader struct {
	width int
	left  []api.Word // what of the line is not read yet
	end   api.Word   // what stands behind the line's words: none, with its place
	fault fault
}

// read are the rules of a text's lines, or its first fault.
func read(lines [][]api.Word, width int) (l []api.Rule, f fault) {
	r := reader{width: width}
	defer func() {
		if recover() != nil {
			l, f = nil, r.fault
		}
	}()
	k := keys{}
	for i, line := range lines {
		rule := r.rule(line)
		r.must(k.add(rule), line[0], api.ErrSame)
		r.must(i < api.MaxRules, line[0], api.ErrMany)
		l = append(l, rule)
	}
	return l, fault{}
}

// must gives up where something does not hold of a word.
func (r *reader) must(holds bool, w api.Word, e api.Errno) {
	if !holds {
		r.fault = fault{w.Line, w.Col, e}
		panic(e)
	}
}

// begin goes to the beginning of a line, which has words.
func (r *reader) begin(line []api.Word) {
	last := line[len(line)-1]
	r.left = line
	r.end = api.Word{Line: last.Line, Col: last.Col + len(last.Text)}
}

// next is the next word; where one is wanting, the end: its empty text is neither a number, a cube, a name nor a sign.
func (r *reader) next() api.Word {
	if len(r.left) == 0 {
		return r.end
	}
	w := r.left[0]
	r.left = r.left[1:]
	return w
}

// rule is that of a line.
func (r *reader) rule(line []api.Word) api.Rule {
	r.begin(line)
	r.text("rule", api.ErrRule)
	var rule api.Rule
	rule.Priority = r.priority()
	rule.Match = r.match()
	rule.Action = r.action()
	r.text("", api.ErrRule)
	return rule
}

// text passes a word that must be just this one; empty: that there is none.
func (r *reader) text(s string, e api.Errno) {
	w := r.next()
	r.must(w.Text == s, w, e)
}

func (r *reader) priority() int {
	w := r.next()
	n, e := words.Number(w.Text)
	r.must(e == api.OK, w, e)
	return n
}

func (r *reader) match() string {
	w := r.next()
	r.must(cube.Check(w.Text) == api.OK, w, api.ErrCube)
	r.must(len(w.Text) == r.width, w, api.ErrWidth)
	return w.Text
}

func (r *reader) action() api.Action {
	w := r.next()
	kind := kindOf(w.Text)
	r.must(kind != 0, w, api.ErrAction)
	_, most := portsOf(kind)
	if most == 0 {
		return api.Action{Kind: kind}
	}
	return api.Action{Kind: kind, Ports: r.ports(most)}
}

// ports are those between parentheses, in order, each once.
func (r *reader) ports(most int) []string {
	r.text("(", api.ErrAction)
	l := []string{r.port()}
	w := r.next()
	for ; w.Text == ","; w = r.next() {
		l = append(l, r.port())
	}
	r.must(w.Text == ")", w, api.ErrAction)
	slices.Sort(l)
	l = slices.Compact(l)
	r.must(len(l) <= most, w, api.ErrMany)
	return l
}

func (r *reader) port() string {
	w := r.next()
	r.must(words.Name(w.Text), w, api.ErrName)
	return w.Text
}
