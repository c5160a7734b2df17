package dfa

import "milestone/api"

// least is the least automaton that takes the paths of one that may be. Its states are parts of that one's.
func least(d api.Dfa, n int) api.Dfa {
	if len(d.Next) == 0 {
		// There are no rows that would bound n.
		return api.Dfa{}
	}
	p := onePart(len(d.Next) + 1)
	for s, accepts := range d.Accept {
		if accepts {
			p.mark(s)
		}
	}
	p.divide()
	b := backwardsOf(d, n)
	for l := p.next(); len(l) > 0; l = p.next() {
		for device := range n {
			for _, s := range l {
				for _, from := range b.ahead(s, device) {
					p.mark(from)
				}
			}
			p.divide()
		}
	}
	return numbered(d, n, p.of)
}

// backwards is an automaton whose paths are gone back. It has one state more, the last one, for all paths that lead to none: so each device leads from each state to just one.
type backwards struct {
	devices int
	from    []int // where the states from which a device leads to a state begin in the list, by states, then devices; and its end
	list    []int
}

func backwardsOf(d api.Dfa, n int) backwards {
	all := len(d.Next) + 1
	b := backwards{devices: n, from: make([]int, all*n+1), list: make([]int, all*n)}
	for s := range all {
		for device := range n {
			b.from[b.place(next(d, s, device), device)]++
		}
	}
	for i := range all * n {
		b.from[i+1] += b.from[i]
	}
	// What is told now is where states end: each one that is put in lets its row begin one ahead.
	for s := range all {
		for device := range n {
			i := b.place(next(d, s, device), device)
			b.from[i]--
			b.list[b.from[i]] = s
		}
	}
	return b
}

func (b *backwards) place(state, device int) int { return state*b.devices + device }

// ahead is the states from which a device leads to a state.
func (b *backwards) ahead(state, device int) []int {
	i := b.place(state, device)
	return b.list[b.from[i]:b.from[i+1]]
}

// next is where a device leads from a state.
func next(d api.Dfa, state, device int) int {
	none := len(d.Next)
	if state == none || d.Next[state][device] < 0 {
		return none
	}
	return d.Next[state][device]
}

// meeting is the parts of an automaton's states that have been met, but that from which no path is taken.
type meeting struct {
	of      []int // of each state its part
	numbers []int // of each part its own, from 1 on, once it is met
	first   []int // of each part that has been met a state: any one tells what becomes of all
}

// number is that of a state's part, the next one if it is met for the first time; -1, if no path is taken from it.
func (m *meeting) number(state int) int {
	none := m.of[len(m.of)-1]
	if state < 0 || m.of[state] == none {
		return -1
	}
	number := &m.numbers[m.of[state]]
	if *number == 0 {
		m.first = append(m.first, state)
		*number = len(m.first)
	}
	return *number - 1
}

// numbered is the automaton whose states are parts, in the order in which they are met.
func numbered(d api.Dfa, n int, of []int) api.Dfa {
	m := meeting{of: of, numbers: make([]int, len(of))}
	m.number(0)
	var out api.Dfa
	for i := 0; i < len(m.first); i++ {
		s := m.first[i]
		row := make([]int, n)
		for device, to := range d.Next[s] {
			row[device] = m.number(to)
		}
		out.Next = append(out.Next, row)
		out.Accept = append(out.Accept, d.Accept[s])
	}
	return out
}
