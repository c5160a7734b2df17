package dfa

// part is states from one place of the list on up to another one, those that are marked ahead of the others.
type part struct {
	from   int
	to     int
	marked int // how many are
}

// parts are all states of an automaton, each in one part.
type parts struct {
	states  []int // part by part
	at      []int // of each state its place in that list
	of      []int // of each state the number of its part
	list    []part
	touched []int // the numbers of those with marked states
	left    []int // of those by which others have not yet been divided
}

// onePart has so many states, all in one part.
func onePart(states int) *parts {
	p := &parts{of: make([]int, states), list: []part{{to: states}}}
	for s := range states {
		p.states = append(p.states, s)
		p.at = append(p.at, s)
	}
	return p
}

// mark marks a state that is not marked yet.
func (p *parts) mark(state int) {
	number := p.of[state]
	x := &p.list[number]
	if x.marked == 0 {
		p.touched = append(p.touched, number)
	}
	p.swap(p.at[state], x.from+x.marked)
	x.marked++
}

// swap lets two places of the list change their states.
func (p *parts) swap(i, j int) {
	p.states[i], p.states[j] = p.states[j], p.states[i]
	p.at[p.states[i]], p.at[p.states[j]] = i, j
}

// divide parts the marked states from the others, and marks none any more.
func (p *parts) divide() {
	for _, number := range p.touched {
		x := p.list[number]
		p.list[number].marked = 0
		if middle := x.from + x.marked; middle < x.to {
			p.cut(number, middle)
		}
	}
	p.touched = p.touched[:0]
}

// cut makes two parts of one. The smaller one is new, so that a state comes into another part few times; and it alone is still left to divide by, since together with the part that was cut it does what the other one would do.
func (p *parts) cut(number, middle int) {
	x := p.list[number]
	small, great := part{from: x.from, to: middle}, part{from: middle, to: x.to}
	if small.to-small.from > great.to-great.from {
		small, great = great, small
	}
	p.list[number] = great
	p.left = append(p.left, len(p.list))
	for _, s := range p.states[small.from:small.to] {
		p.of[s] = len(p.list)
	}
	p.list = append(p.list, small)
}

// next is the states of a part by which others are to be divided; without any there is none left.
func (p *parts) next() []int {
	if len(p.left) == 0 {
		return nil
	}
	last := len(p.left) - 1
	x := p.list[p.left[last]]
	p.left = p.left[:last]
	// A copy, since the part may itself be cut while others are divided by it.
	return append([]int(nil), p.states[x.from:x.to]...)
}
