package topo_test

import (
	"regexp"
	"slices"
	"strconv"
	"strings"

	"milestone/api"
	"milestone/words"
)

// name is what a name is, by chapter 3.
var name = regexp.MustCompile(`^[a-zA-Z_][a-zA-Z0-9_-]{0,63}$`)

// number is what a number without too many digits is, by chapter 3.
var number = regexp.MustCompile(`^(0|[1-9][0-9]{0,8})$`)

// behind is what a word is, by what the one ahead of it was, as a role and as a word. Words without a role are too many.
func behind(role, word string) string {
	switch role + " " + word {
	case "first width":
		return "width"
	case "first device":
		return "new device"
	case "first link":
		return "an end's device"
	case "lists class", "behind a class ,":
		return "a class"
	case "lists port", "behind a class port", "behind a port ,":
		return "a port"
	case "arrow ->":
		return "the other's device"
	}
	switch role {
	case "new device":
		return "lists"
	case "a class":
		return "behind a class"
	case "a port":
		return "behind a port"
	case "an end's device":
		return "an end's port"
	case "an end's port":
		return "arrow"
	case "the other's device":
		return "the other's port"
	}
	return ""
}

// roles are those of a line's words, and that of the one behind them.
func roles(line []string) []string {
	l := []string{"first"}
	for i, w := range line {
		l = append(l, behind(l[i], w))
	}
	return l
}

// listed are the words of a line that have a role.
func listed(line []string, as string) []string {
	var l []string
	for i, role := range roles(line) {
		if role == as && i < len(line) {
			l = append(l, line[i])
		}
	}
	return l
}

// distinct is how many unlike words there are.
func distinct(l []string) int {
	m := map[string]bool{}
	for _, w := range l {
		m[w] = true
	}
	return len(m)
}

// deviceLine is the line of a device, among lines; nil: there is none.
func deviceLine(lines [][]string, name string) []string {
	for _, l := range lines {
		if l[0] == "device" && l[1] == name {
			return l
		}
	}
	return nil
}

// hasLink tells whether a line among others has a port of a device at one of its ends.
func hasLink(lines [][]string, device, port string) bool {
	return slices.ContainsFunc(lines, func(l []string) bool {
		return l[0] == "link" && (l[1] == device && l[2] == port || l[4] == device && l[5] == port)
	})
}

// wordFault is what is wrong with a word behind lines and words that are right; behind the last one it is empty.
func wordFault(lines [][]string, line []string, i int, as string) api.Errno {
	w := ""
	if i < len(line) {
		w = line[i]
	}
	switch as {
	case "first":
		if len(lines) == 0 && w != "width" || len(lines) > 0 && w != "device" && w != "link" {
			return api.ErrLine
		}
	case "width":
		n, _ := strconv.Atoi(w)
		if !number.MatchString(w) {
			return api.ErrNumber
		} else if n < 1 || n > 128 {
			return api.ErrRange
		}
	case "new device", "a class", "a port", "an end's device", "an end's port", "the other's device", "the other's port":
		if !name.MatchString(w) {
			return api.ErrName
		}
		return nameFault(lines, line, i, as)
	case "arrow":
		if w != "->" {
			return api.ErrLine
		}
	default:
		// A line may end here, or go on with one of few words.
		goesOn := map[string][]string{"lists": {"class", "port"}, "behind a class": {",", "port"}, "behind a port": {","}}[as]
		if w != "" && !slices.Contains(goesOn, w) {
			return api.ErrLine
		}
	}
	return api.OK
}

// nameFault is what is wrong with a name.
func nameFault(lines [][]string, line []string, i int, as string) api.Errno {
	w := line[i]
	switch as {
	case "new device":
		if deviceLine(lines, w) != nil {
			return api.ErrTwice
		}
	case "a class":
		if distinct(listed(line[:i+1], as)) > 16 {
			return api.ErrMany
		}
	case "a port":
		if distinct(listed(line[:i+1], as)) > 64 {
			return api.ErrMany
		}
	case "an end's device", "the other's device":
		if deviceLine(lines, w) == nil {
			return api.ErrUnknown
		}
	case "an end's port", "the other's port":
		if hasLink(lines, line[i-1], w) || i == 5 && line[1] == line[4] && line[2] == w {
			return api.ErrTwice
		}
		d := deviceLine(lines, line[i-1])
		if !slices.Contains(listed(d, "a port"), w) {
			return api.ErrUnknown
		}
	}
	return api.OK
}

// kindsOf is how many lines begin with a word.
func kindsOf(lines [][]string, first string) int {
	n := 0
	for _, l := range lines {
		if l[0] == first {
			n++
		}
	}
	return n
}

// parseByWords is Parse, as the document says it.
func parseByWords(s string) (api.Topo, int, int, api.Errno) {
	all, line, col, e := words.Lines(s)
	if e != api.OK {
		return api.Topo{}, line, col, e
	}
	var lines [][]string
	for _, l := range all {
		var texts []string
		for _, w := range l {
			texts = append(texts, w.Text)
		}
		last := l[len(l)-1]
		l = append(l, api.Word{Line: last.Line, Col: last.Col + len(last.Text)})
		as := roles(texts)
		for i, w := range l {
			if e := wordFault(lines, texts, i, as[i]); e != api.OK {
				return api.Topo{}, w.Line, w.Col, e
			}
		}
		lines = append(lines, texts)
		if kindsOf(lines, "device") > 256 || kindsOf(lines, "link") > 4096 {
			return api.Topo{}, l[0].Line, l[0].Col, api.ErrMany
		}
	}
	if len(lines) == 0 {
		return api.Topo{}, 0, 0, api.ErrLine
	}
	if kindsOf(lines, "device") == 0 {
		return api.Topo{}, 0, 0, api.ErrTopo
	}
	return topoByWords(lines), 0, 0, api.OK
}

// topoByWords is the topology of lines that are right.
func topoByWords(lines [][]string) api.Topo {
	var x api.Topo
	x.Width, _ = strconv.Atoi(lines[0][1])
	numbers := map[string]int{}
	for _, l := range lines {
		if l[0] == "device" {
			x.Devices = append(x.Devices, api.Device{Name: l[1], Classes: rising(listed(l, "a class")), Ports: rising(listed(l, "a port"))})
		}
	}
	slices.SortFunc(x.Devices, func(a, b api.Device) int { return strings.Compare(a.Name, b.Name) })
	for i, d := range x.Devices {
		numbers[d.Name] = i
	}
	for _, l := range lines {
		if l[0] == "link" {
			k := link(numbers[l[1]], l[2], numbers[l[4]], l[5])
			if k.B < k.A || k.A == k.B && k.PortB < k.PortA {
				k = link(k.B, k.PortB, k.A, k.PortA)
			}
			x.Links = append(x.Links, k)
		}
	}
	slices.SortFunc(x.Links, func(a, b api.Link) int {
		if a.A != b.A {
			return a.A - b.A
		}
		return strings.Compare(a.PortA, b.PortA)
	})
	return x
}

func rising(l []string) []string { return slices.Compact(sorted(l...)) }

// mayBeByWords tells whether a topology may be, each pair of its parts held against each other.
func mayBeByWords(x api.Topo) bool {
	may := x.Width >= 1 && x.Width <= 128 && len(x.Devices) >= 1 && len(x.Devices) <= 256 && len(x.Links) <= 4096
	for i, d := range x.Devices {
		may = may && name.MatchString(d.Name) && namesByWords(d.Classes, 16) && namesByWords(d.Ports, 64)
		for _, ahead := range x.Devices[:i] {
			may = may && ahead.Name < d.Name
		}
	}
	ports := map[api.Link]int{}
	for i, l := range x.Links {
		may = may && l.A >= 0 && l.A < len(x.Devices) && l.B >= 0 && l.B < len(x.Devices)
		may = may && slices.Contains(x.Devices[l.A].Ports, l.PortA) && slices.Contains(x.Devices[l.B].Ports, l.PortB)
		may = may && (l.A < l.B || l.A == l.B && l.PortA < l.PortB)
		for _, ahead := range x.Links[:i] {
			may = may && (ahead.A < l.A || ahead.A == l.A && ahead.PortA < l.PortA)
		}
		ports[api.Link{A: l.A, PortA: l.PortA}]++
		ports[api.Link{A: l.B, PortA: l.PortB}]++
	}
	for _, n := range ports {
		may = may && n == 1
	}
	return may
}

func namesByWords(l []string, most int) bool {
	for i, n := range l {
		if !name.MatchString(n) || i > 0 && slices.Max(l[:i]) >= n {
			return false
		}
	}
	return len(l) <= most
}

// printByWords is Print of what may be: a blank stands between two words of letters alone.
func printByWords(x api.Topo) string {
	lines := []string{"width " + strconv.Itoa(x.Width)}
	for _, d := range x.Devices {
		s := "device " + d.Name
		if len(d.Classes) > 0 {
			s += " class " + strings.Join(d.Classes, ",")
		}
		if len(d.Ports) > 0 {
			s += " port " + strings.Join(d.Ports, ",")
		}
		lines = append(lines, s)
	}
	for _, l := range x.Links {
		lines = append(lines, "link "+x.Devices[l.A].Name+" "+l.PortA+"->"+x.Devices[l.B].Name+" "+l.PortB)
	}
	return strings.Join(lines, "\n") + "\n"
}
