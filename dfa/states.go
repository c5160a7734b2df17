package dfa

import "milestone/api"

// states are the sets of an expression that have been met, each of them once: a path leads to that of its ends.
type states struct {
	sets    []set
	numbers map[string]int
}

// number is that of a set, the next one if it is met for the first time. Of the empty set it is -1, since no path goes on behind it. A set that is one too many gives up.
func (l *states) number(s set) int {
	if s.empty() {
		return -1
	}
	n, met := l.numbers[string(s)]
	if met {
		return n
	}
	n = len(l.sets)
	if n == api.MaxStates {
		panic(api.ErrMany)
	}
	l.numbers[string(s)] = n
	l.sets = append(l.sets, s)
	return n
}

// automatonOf has a state of each set.
func automatonOf(c *chart, l []api.Who) api.Dfa {
	var fitting []set
	for _, w := range l {
		fitting = append(fitting, c.fitting(w))
	}
	met := states{numbers: map[string]int{}}
	met.number(c.only(0))
	var d api.Dfa
	for i := 0; i < len(met.sets); i++ {
		behind := c.next(met.sets[i])
		row := make([]int, len(l))
		for device, fits := range fitting {
			row[device] = met.number(behind.common(fits))
		}
		d.Next = append(d.Next, row)
		d.Accept = append(d.Accept, !met.sets[i].common(c.ends).empty())
	}
	return d
}
