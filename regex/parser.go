package regex

import (
	"strings"

	"milestone/api"
	"milestone/words"
)

// mostOpen is how many parentheses may be open at once.
const mostOpen = 50

// place is where one stands in a row of words: at is the number of the next one.
type place struct {
	words []api.Word
	at    int
}

// next is the next word's text; behind the last one it is empty, as no word of an expression is.
func (p *place) next() string {
	if p.done() {
		return ""
	}
	return p.words[p.at].Text
}

func (p *place) pass() { p.at++ }

func (p *place) done() bool { return p.at == len(p.words) }

// group is what stands in parentheses that are still open, or in none.
type group struct {
	ahead []api.Regex // the alternatives that are whole
	parts []api.Regex // those of the sequence behind them
}

// whole is the expression of a group; of nothing the sequence without Kids.
func (g *group) whole() api.Regex {
	return join(api.RAlt, append(g.ahead, join(api.RSeq, g.parts)))
}

// parser reads words one by one. At the first one with which no expression goes on it panics: its place is the fault's. It keeps the open groups in a list, since as many may be open as there are words: the first that is too many is not told till it is known that an expression goes on.
type parser struct {
	place
	groups []group // the first one is in no parentheses
	beyond int     // the number of the first parenthesis that is one too many; 0: none is
}

// parse is the expression of words, however great, or the number of the word at fault.
func parse(l []api.Word) (r api.Regex, fault int, e api.Errno) {
	p := parser{place: place{words: l}, groups: make([]group, 1)}
	defer func() {
		if recover() != nil {
			fault, e = p.at, api.ErrSyntax
		}
	}()
	for !p.done() {
		p.word()
	}
	p.must(p.open() == 0 && len(p.last().parts) > 0)
	if p.beyond > 0 {
		return r, p.beyond, api.ErrDeep
	}
	return p.last().whole(), 0, api.OK
}

// must gives up where no expression goes on with the next word.
func (p *parser) must(goesOn bool) {
	if !goesOn {
		panic(api.ErrSyntax)
	}
}

// open is how many parentheses are.
func (p *parser) open() int { return len(p.groups) - 1 }

// last is the innermost group.
func (p *parser) last() *group { return &p.groups[p.open()] }

// word reads the next one.
func (p *parser) word() {
	switch w := p.next(); w {
	case "(":
		p.begin()
	case ")":
		p.end()
	case "|":
		p.divide()
	case "*":
		fallthrough
	case "+":
		fallthrough
	case "?":
		p.repeat(kindOf(w))
	case ".":
		p.put(api.Regex{Op: api.RAny})
	case "$":
		p.pass()
		p.put(p.named(api.RClass))
	default:
		p.put(p.named(api.RDevice))
	}
	p.pass()
}

func (p *parser) put(r api.Regex) {
	g := p.last()
	g.parts = append(g.parts, r)
}

// named is what the next word names.
func (p *parser) named(op api.RegexOp) api.Regex {
	name := p.next()
	p.must(words.Name(name))
	return api.Regex{Op: op, Name: strings.Clone(name)}
}

// repeat puts a sign behind the last part.
func (p *parser) repeat(op api.RegexOp) {
	parts := p.last().parts
	p.must(len(parts) > 0)
	last := len(parts) - 1
	parts[last] = api.Regex{Op: op, Kids: []api.Regex{parts[last]}}
}

// divide ends an alternative.
func (p *parser) divide() {
	g := p.last()
	p.must(len(g.parts) > 0)
	g.ahead = append(g.ahead, join(api.RSeq, g.parts))
	g.parts = nil
}

func (p *parser) begin() {
	if p.open() == mostOpen && p.beyond == 0 {
		p.beyond = p.at
	}
	p.groups = append(p.groups, group{})
}

func (p *parser) end() {
	g := p.last()
	nothing := len(g.ahead) == 0 && len(g.parts) == 0
	p.must(p.open() > 0 && (nothing || len(g.parts) > 0))
	r := g.whole()
	if p.open() > mostOpen {
		// Nobody will be told of it, and to join it to what stands about it, level by level, would last.
		r = api.Regex{Op: api.RSeq}
	}
	p.groups = p.groups[:p.open()]
	p.put(r)
}

// join is the expression of a kind that has these parts. Those of its own kind are taken apart, and one that is left alone stands for all, so that it may be.
func join(op api.RegexOp, parts []api.Regex) api.Regex {
	var kids []api.Regex
	for _, r := range parts {
		if r.Op == op {
			kids = append(kids, r.Kids...)
		} else {
			kids = append(kids, r)
		}
	}
	if len(kids) == 1 {
		return kids[0]
	}
	return api.Regex{Op: op, Kids: kids}
}

// placeOf is the line and column of a word by its number; of the one behind the last: the column behind that.
func placeOf(l []api.Word, number int) (line, col int) {
	if number < len(l) {
		return l[number].Line, l[number].Col
	}
	if len(l) == 0 {
		return 1, 1
	}
	last := l[len(l)-1]
	return last.Line, last.Col + len(last.Text)
}
