package dfa_test

import (
	"fmt"
	"slices"
	"strconv"
	"strings"

	"milestone/api"
	"milestone/regex"
)

// Automata by their paths

// lineOf is a state's, as Text has it.
func lineOf(number int, accepts bool, row []int) string {
	line := strconv.Itoa(number) + " -"
	if accepts {
		line = strconv.Itoa(number) + " *"
	}
	for _, n := range row {
		if n < 0 {
			line += " -"
		} else {
			line += " " + strconv.Itoa(n)
		}
	}
	return line + "\n"
}

// leastByPaths is the text of the least automaton of n devices that takes some paths. Two paths lead to one state, if the same can stand behind both, of at most so many devices: that must be enough to tell them apart.
func leastByPaths(n, most int, takes func(path []int) bool) string {
	behind := func(path []int) string {
		var s strings.Builder
		eachPath(n, most, func(more []int) {
			if takes(slices.Concat(path, more)) {
				fmt.Fprint(&s, more)
			}
		})
		return s.String()
	}
	states := map[string]int{}
	var first [][]int
	number := func(path []int) int {
		key := behind(path)
		if key == "" {
			return -1
		}
		if _, ok := states[key]; !ok {
			states[key] = len(first)
			first = append(first, path)
		}
		return states[key]
	}
	number(nil)
	text := ""
	for i := 0; i < len(first); i++ {
		var row []int
		for device := range n {
			row = append(row, number(append(slices.Clone(first[i]), device)))
		}
		text += lineOf(i, takes(first[i]), row)
	}
	return text
}

// leastByPairs is the text of the least automaton that takes the same paths as one, found by asking of each pair of states whether they differ. One state more, the last one, takes nothing.
func leastByPairs(d api.Dfa, n int) string {
	none := len(d.Next)
	next := func(s, device int) int {
		if s == none || d.Next[s][device] < 0 {
			return none
		}
		return d.Next[s][device]
	}
	accepts := func(s int) bool { return s < none && d.Accept[s] }
	differ := map[[2]int]bool{}
	for more := true; more; {
		more = false
		for s := range none + 1 {
			for u := range none + 1 {
				differs := accepts(s) != accepts(u)
				for device := range n {
					differs = differs || differ[[2]int{next(s, device), next(u, device)}]
				}
				if differs && !differ[[2]int{s, u}] {
					differ[[2]int{s, u}], more = true, true
				}
			}
		}
	}
	var first []int
	number := func(s int) int {
		if !differ[[2]int{s, none}] {
			return -1
		}
		for i, f := range first {
			if !differ[[2]int{s, f}] {
				return i
			}
		}
		first = append(first, s)
		return len(first) - 1
	}
	number(0)
	text := ""
	for i := 0; i < len(first); i++ {
		var row []int
		for device := range n {
			row = append(row, number(next(first[i], device)))
		}
		text += lineOf(i, accepts(first[i]), row)
	}
	return text
}

// taken tells whether an automaton that may be takes a path.
func taken(d api.Dfa, path []int) bool {
	if len(d.Next) == 0 {
		return false
	}
	s := 0
	for _, device := range path {
		if s = d.Next[s][device]; s < 0 {
			return false
		}
	}
	return d.Accept[s]
}

// isOneOf tells whether a path is one of an expression, by trying all ways to part it.
func isOneOf(path []api.Who, r api.Regex) bool {
	switch r.Op {
	case api.RDevice:
		return len(path) == 1 && path[0].Name == r.Name
	case api.RClass:
		return len(path) == 1 && slices.Contains(path[0].Classes, r.Name)
	case api.RAny:
		return len(path) == 1
	case api.RSeq:
		return isRowOf(path, r.Kids)
	case api.RAlt:
		return slices.ContainsFunc(r.Kids, func(k api.Regex) bool { return isOneOf(path, k) })
	case api.ROpt:
		return len(path) == 0 || isOneOf(path, r.Kids[0])
	case api.RPlus:
		return isOneOf(path, r.Kids[0]) || len(path) > 0 && areSomeOf(path, r.Kids[0])
	}
	return areSomeOf(path, r.Kids[0])
}

func isRowOf(path []api.Who, kids []api.Regex) bool {
	if len(kids) == 0 {
		return len(path) == 0
	}
	for n := range len(path) + 1 {
		if isOneOf(path[:n], kids[0]) && isRowOf(path[n:], kids[1:]) {
			return true
		}
	}
	return false
}

// areSomeOf tells whether a path is any number of paths, none of them empty, one behind the other.
func areSomeOf(path []api.Who, kid api.Regex) bool {
	if len(path) == 0 {
		return true
	}
	for n := 1; n <= len(path); n++ {
		if isOneOf(path[:n], kid) && areSomeOf(path[n:], kid) {
			return true
		}
	}
	return false
}

// The sets of an expression

// marked is an expression whose places have names of their own, and by these what stood there.
func marked(r api.Regex, places map[string]api.Regex) api.Regex {
	if r.Op <= api.RAny {
		name := "p" + strconv.Itoa(len(places))
		places[name] = r
		return device(name)
	}
	out := api.Regex{Op: r.Op}
	for _, k := range r.Kids {
		out.Kids = append(out.Kids, marked(k, places))
	}
	return out
}

// rest is what may stand behind a place that the first device of a path stands for: expressions, of each of which a path may be.
func rest(r api.Regex, place string) []api.Regex {
	var l []api.Regex
	switch r.Op {
	case api.RDevice:
		if r.Name == place {
			l = append(l, of(api.RSeq))
		}
	case api.RSeq:
		for i, k := range r.Kids {
			for _, x := range rest(k, place) {
				l = append(l, behindIt(x, r.Kids[i+1:]...))
			}
			if !isOneOf(nil, k) {
				break
			}
		}
	case api.RStar, api.RPlus:
		for _, x := range rest(r.Kids[0], place) {
			l = append(l, behindIt(x, of(api.RStar, r.Kids[0])))
		}
	default:
		for _, k := range r.Kids {
			l = append(l, rest(k, place)...)
		}
	}
	return l
}

// behindIt is a row of an expression and others.
func behindIt(x api.Regex, others ...api.Regex) api.Regex {
	return of(api.RSeq, slices.Concat([]api.Regex{x}, others)...)
}

// shape is an expression as a text, without what is nothing.
func shape(r api.Regex) string {
	if r.Op == api.RDevice {
		return r.Name
	}
	s := ""
	for _, k := range r.Kids {
		if inner := shape(k); inner != "" {
			s += " " + inner
		}
	}
	if r.Op == api.RSeq {
		return strings.TrimSpace(s)
	}
	return strconv.Itoa(int(r.Op)) + "[" + s + "]"
}

// followers are, of each place and of the empty path (whose name is empty), the places for which the next device may stand.
func followers(r api.Regex, places map[string]api.Regex) map[string]map[string]bool {
	type spot struct {
		place string
		left  api.Regex
	}
	out := map[string]map[string]bool{}
	met := map[string]bool{}
	work := []spot{{"", r}}
	for len(work) > 0 {
		at := work[0]
		work = work[1:]
		if key := at.place + ":" + shape(at.left); met[key] {
			continue
		} else {
			met[key] = true
		}
		if out[at.place] == nil {
			out[at.place] = map[string]bool{}
		}
		for place := range places {
			for _, x := range rest(at.left, place) {
				out[at.place][place] = true
				work = append(work, spot{place, x})
			}
		}
	}
	return out
}

// setsByWords is how many sets an expression has over devices; it gives up behind so many.
func setsByWords(r api.Regex, l []api.Who, most int) int {
	places := map[string]api.Regex{}
	m := marked(r, places)
	follow := followers(m, places)
	met := map[string]bool{}
	work := [][]string{{""}}
	for len(work) > 0 && len(met) < most {
		at := work[0]
		work = work[1:]
		if key := strings.Join(at, ","); met[key] {
			continue
		} else {
			met[key] = true
		}
		for _, w := range l {
			ends := map[string]bool{}
			for _, place := range at {
				for next := range follow[place] {
					if isOneOf([]api.Who{w}, places[next]) {
						ends[next] = true
					}
				}
			}
			var next []string
			for place := range ends {
				next = append(next, place)
			}
			if slices.Sort(next); len(next) > 0 {
				work = append(work, next)
			}
		}
	}
	return len(met)
}

// matches tells whether a path of devices by their numbers is one of an expression.
func matches(r api.Regex, l []api.Who, path []int) bool {
	ok, e := regex.Match(r, pathOf(l, path)...)
	return ok && e == api.OK
}
