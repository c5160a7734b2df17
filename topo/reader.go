package topo

import (
	"cmp"
	"slices"

	"milestone/api"
	"milestone/words"
)

// fault is what is wrong with a text, and where.
type fault struct {
	line int
	col  int
	err  api.Errno
}

// reader reads lines word by word into the topology that it embeds. There devices have their numbers by lines till all are read, since only then it is known which comes first. At the first fault it takes that down, and panics.
type reader struct {
	api.Topo
	numbers map[string]int // of devices by their names, from 1 on
	taken   ends           // those that links have
	first   api.Word       // the line's
	left    []api.Word     // what of the line is not read yet
	behind  api.Word       // what stands behind the line's words: none, with its place
	fault   fault
}

// read is the topology of a text's lines, or its first fault.
func read(lines [][]api.Word) (t api.Topo, f fault) {
	r := reader{numbers: map[string]int{}, taken: ends{}}
	defer func() {
		if recover() != nil {
			t, f = api.Topo{}, r.fault
		}
	}()
	nowhere := api.Word{}
	r.must(len(lines) > 0, nowhere, api.ErrLine)
	kinds := r.kinds()
	for i, line := range lines {
		r.begin(line)
		rest := kinds[r.first.Text]
		r.must(rest != nil && (r.first.Text == "width") == (i == 0), r.first, api.ErrLine)
		rest()
	}
	r.must(len(r.Devices) > 0, nowhere, api.ErrTopo)
	r.order()
	return r.Topo, fault{}
}

// kinds are what reads the rest of a line, by its first word.
func (r *reader) kinds() map[string]func() {
	return map[string]func(){"width": r.width, "device": r.device, "link": r.link}
}

// must gives up where something does not hold of a word.
func (r *reader) must(holds bool, w api.Word, e api.Errno) {
	if !holds {
		r.fault = fault{w.Line, w.Col, e}
		panic(e)
	}
}

// begin goes behind the first word of a line, which has words.
func (r *reader) begin(line []api.Word) {
	last := line[len(line)-1]
	r.first, r.left = line[0], line[1:]
	r.behind = api.Word{Line: last.Line, Col: last.Col + len(last.Text)}
}

// peek is the next word; where one is wanting, what stands behind all: its empty text is neither a number, a name nor a sign.
func (r *reader) peek() api.Word {
	if len(r.left) == 0 {
		return r.behind
	}
	return r.left[0]
}

// next is the next word, and passes it.
func (r *reader) next() api.Word {
	w := r.peek()
	r.left = r.left[min(1, len(r.left)):]
	return w
}

// passed passes the next word if it is this one, and tells whether it was.
func (r *reader) passed(s string) bool {
	if r.peek().Text != s {
		return false
	}
	r.next()
	return true
}

// finish asks that the line has no more words.
func (r *reader) finish() { r.must(len(r.left) == 0, r.peek(), api.ErrLine) }

func (r *reader) width() {
	w := r.next()
	n, e := words.Number(w.Text)
	r.must(e == api.OK, w, e)
	r.must(isWidth(n), w, api.ErrRange)
	r.finish()
	r.Width = n
}

func (r *reader) device() {
	w := r.name()
	r.must(r.numbers[w.Text] == 0, w, api.ErrTwice)
	d := api.Device{Name: w.Text}
	if r.passed("class") {
		d.Classes = r.list(api.MaxClasses)
	}
	if r.passed("port") {
		d.Ports = r.list(api.MaxPorts)
	}
	r.finish()
	r.must(len(r.Devices) < api.MaxDevices, r.first, api.ErrMany)
	r.Devices = append(r.Devices, d)
	r.numbers[d.Name] = len(r.Devices)
}

func (r *reader) link() {
	a := r.end()
	r.must(r.peek().Text == "->", r.peek(), api.ErrLine)
	r.next()
	b := r.end()
	r.finish()
	r.must(len(r.Links) < api.MaxLinks, r.first, api.ErrMany)
	r.Links = append(r.Links, joined(a, b))
}

// name passes a word that is a name.
func (r *reader) name() api.Word {
	w := r.next()
	r.must(words.Name(w.Text), w, api.ErrName)
	return w
}

// list is names with commas between, in order, each once.
func (r *reader) list(most int) []string {
	var l []string
	for more := true; more; more = r.passed(",") {
		w := r.name()
		i, there := slices.BinarySearch(l, w.Text)
		if there {
			continue
		}
		r.must(len(l) < most, w, api.ErrMany)
		l = slices.Insert(l, i, w.Text)
	}
	return l
}

// end is a device's port, which no link has yet. It is taken at once, so that a link's other end is not the same.
func (r *reader) end() end {
	w := r.name()
	number := r.numbers[w.Text]
	r.must(number > 0, w, api.ErrUnknown)
	w = r.name()
	x := end{number - 1, w.Text}
	r.must(r.taken.add(x), w, api.ErrTwice)
	r.must(hasPort(r.Devices, x), w, api.ErrUnknown)
	return x
}

// order puts devices and links in order, and lets links have the devices' new numbers.
func (r *reader) order() {
	slices.SortFunc(r.Devices, func(a, b api.Device) int { return cmp.Compare(a.Name, b.Name) })
	places := make([]int, len(r.Devices))
	for i, d := range r.Devices {
		places[r.numbers[d.Name]-1] = i
	}
	for i, l := range r.Links {
		a, b := endsOf(l)
		a.device, b.device = places[a.device], places[b.device]
		r.Links[i] = joined(a, b)
	}
	slices.SortFunc(r.Links, compareLinks)
}
