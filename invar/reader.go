package invar

import (
	"slices"

	"milestone/api"
	"milestone/cube"
	"milestone/regex"
	"milestone/words"
)

// place is where one stands in a line.
type place struct {
	left []api.Word // what of the line is not read yet
	end  api.Word   // what stands behind the line's words: none, with its place
}

// begin goes to the beginning of a line, which has words.
func (p *place) begin(line []api.Word) {
	last := line[len(line)-1]
	p.left = line
	p.end = api.Word{Line: last.Line, Col: last.Col + len(last.Text)}
}

// word is that of a number among those that are left; where it is wanting, the end: its empty text is neither a name, a cube, a number nor a sign.
func (p *place) word(number int) api.Word {
	if number >= len(p.left) {
		return p.end
	}
	return p.left[number]
}

// next is the next word, and passes it.
func (p *place) next() api.Word {
	w := p.word(0)
	p.left = p.left[min(1, len(p.left)):]
	return w
}

// passed passes the next word if it is this one, and tells whether it was.
func (p *place) passed(s string) bool {
	if p.word(0).Text != s {
		return false
	}
	p.next()
	return true
}

// fault is what is wrong with a text, and where.
type fault struct {
	line int
	col  int
	err  api.Errno
}

// reader reads lines word by word. At the first fault it takes that down, and panics.
type reader struct {
	place
	fault fault
}

// must gives up where something does not hold of a word.
func (r *reader) must(holds bool, w api.Word, e api.Errno) {
	if !holds {
		r.fault = fault{w.Line, w.Col, e}
		panic(e)
	}
}

// invariants are those of a text's lines.
func (r *reader) invariants(lines [][]api.Word) []api.Invariant {
	var l []api.Invariant
	come := names{}
	for i, line := range lines {
		v := r.invariant(line)
		r.must(come.add(v.Name), line[0], api.ErrSame)
		r.must(i < api.MaxInvariants, line[0], api.ErrMany)
		l = append(l, v)
	}
	return l
}

// invariant is that of a line.
func (r *reader) invariant(line []api.Word) api.Invariant {
	var v api.Invariant
	r.begin(line)
	r.text("invariant")
	v.Name = r.name().Text
	r.text("packets")
	v.Packets = r.packets()
	r.text("from")
	v.Ingress = r.ingress()
	r.text("hops")
	v.Hops = r.number(api.MaxHops)
	r.text("count")
	v.Compare = r.compare()
	v.Count = r.number(api.MaxCount)
	r.text("path")
	v.Path = r.path()
	return v
}

// text passes a word that must be just this one.
func (r *reader) text(s string) {
	w := r.next()
	r.must(w.Text == s, w, api.ErrInvariant)
}

// name passes a word that is a name.
func (r *reader) name() api.Word {
	w := r.next()
	r.must(words.Name(w.Text), w, api.ErrName)
	return w
}

func (r *reader) packets() string {
	w := r.next()
	r.must(cube.Check(w.Text) == api.OK, w, api.ErrCube)
	return w.Text
}

// ingress is names with commas between, in order, each once.
func (r *reader) ingress() []string {
	var l []string
	for more := true; more; more = r.passed(",") {
		w := r.name()
		i, there := slices.BinarySearch(l, w.Text)
		if there {
			continue
		}
		r.must(len(l) < api.MaxDevices, w, api.ErrMany)
		l = slices.Insert(l, i, w.Text)
	}
	return l
}

// number is one up to the greatest that may be.
func (r *reader) number(most int) int {
	w := r.next()
	n, e := words.Number(w.Text)
	r.must(e == api.OK, w, e)
	r.must(n <= most, w, api.ErrRange)
	return n
}

func (r *reader) compare() int {
	w := r.next()
	c := compareOf(w.Text)
	r.must(c != 0, w, api.ErrInvariant)
	return c
}

// path is the expression of all words that are left.
func (r *reader) path() api.Regex {
	x, number, e := regex.Read(r.left...)
	r.must(e == api.OK, r.word(number), e)
	return x
}
