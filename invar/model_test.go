package invar_test

import (
	"regexp"
	"slices"
	"strconv"

	"milestone/api"
	"milestone/regex"
	"milestone/words"
)

// What names, cubes and numbers are, by chapters 3 and 1.
var (
	name   = regexp.MustCompile(`^[a-zA-Z_][a-zA-Z0-9_-]{0,63}$`)
	cubes  = regexp.MustCompile(`^[01x]{1,128}$`)
	digits = regexp.MustCompile(`^(0|[1-9][0-9]*)$`)
)

// behind is what must stand behind a word, by what that one is.
func behind(role, word string) string {
	if role == "more" {
		if word == "," {
			return "ingress"
		}
		role = "hops"
	}
	order := []string{"invariant", "name", "packets", "cube", "from", "ingress", "more", "", "hops", "64", "count", "sign", "62", "path", "expression"}
	return order[slices.Index(order, role)+1]
}

// wordFault is what is wrong with a word behind words that are right; behind the last one it is empty.
func wordFault(role, w string) api.Errno {
	switch role {
	case "name", "ingress":
		if !name.MatchString(w) {
			return api.ErrName
		}
	case "cube":
		if !cubes.MatchString(w) {
			return api.ErrCube
		}
	case "64", "62":
		most, _ := strconv.Atoi(role)
		n, e := strconv.ParseUint(w, 10, 31)
		if !digits.MatchString(w) || e != nil {
			return api.ErrNumber
		} else if int(n) > most {
			return api.ErrRange
		}
	case "sign":
		if w != "==" && w != "<=" && w != ">=" {
			return api.ErrInvariant
		}
	case "more":
		if w != "," && w != "hops" {
			return api.ErrInvariant
		}
	default:
		if w != role {
			return api.ErrInvariant
		}
	}
	return api.OK
}

// lineByWords is the invariant of a line, with a word more that stands behind all; or the number of the word at fault.
func lineByWords(l []api.Word) (api.Invariant, int, api.Errno) {
	var v api.Invariant
	role := "invariant"
	for i, w := range l {
		if role == "expression" {
			x, at, e := regex.Read(l[i : len(l)-1]...)
			v.Path = x
			return v, i + at, e
		}
		if e := wordFault(role, w.Text); e != api.OK {
			return v, i, e
		}
		switch role {
		case "name":
			v.Name = w.Text
		case "cube":
			v.Packets = w.Text
		case "ingress":
			v.Ingress = append(v.Ingress, w.Text)
			slices.Sort(v.Ingress)
			v.Ingress = slices.Compact(v.Ingress)
			if len(v.Ingress) > 256 {
				return v, i, api.ErrMany
			}
		case "64":
			v.Hops, _ = strconv.Atoi(w.Text)
		case "62":
			v.Count, _ = strconv.Atoi(w.Text)
		case "sign":
			v.Compare = 1 + slices.Index([]string{"==", "<=", ">="}, w.Text)
		}
		role = behind(role, w.Text)
	}
	return v, len(l), api.ErrInvariant // not to be reached
}

// parseByWords is Parse, as the document says it.
func parseByWords(s string) ([]api.Invariant, int, int, api.Errno) {
	lines, line, col, e := words.Lines(s)
	if e != api.OK {
		return nil, line, col, e
	}
	var all []api.Invariant
	for _, l := range lines {
		last := l[len(l)-1]
		l = append(l, api.Word{Line: last.Line, Col: last.Col + len(last.Text)})
		v, at, e := lineByWords(l)
		if e == api.OK && slices.ContainsFunc(all, func(w api.Invariant) bool { return w.Name == v.Name }) {
			at, e = 0, api.ErrSame
		} else if e == api.OK && len(all) == 64 {
			at, e = 0, api.ErrMany
		}
		if e != api.OK {
			return nil, l[at].Line, l[at].Col, e
		}
		all = append(all, v)
	}
	return all, 0, 0, api.OK
}

// mayBeByWords tells whether all fields but Path may be.
func mayBeByWords(v api.Invariant) bool {
	may := name.MatchString(v.Name) && cubes.MatchString(v.Packets) && len(v.Ingress) >= 1 && len(v.Ingress) <= 256
	for i, n := range v.Ingress {
		may = may && name.MatchString(n) && (i == 0 || slices.Max(v.Ingress[:i]) < n)
	}
	return may && v.Hops >= 0 && v.Hops <= 64 && v.Count >= 0 && v.Count <= 62 && slices.Contains([]int{1, 2, 3}, v.Compare)
}

// pathByWords are the words of an expression that may be, as chapter 9 says them.
func pathByWords(r api.Regex) []string {
	around := func(k api.Regex, in bool) []string {
		if in {
			return append(append([]string{"("}, pathByWords(k)...), ")")
		}
		return pathByWords(k)
	}
	var l []string
	switch r.Op {
	case api.RDevice:
		return []string{r.Name}
	case api.RClass:
		return []string{"$", r.Name}
	case api.RAny:
		return []string{"."}
	case api.RSeq:
		if len(r.Kids) == 0 {
			return []string{"(", ")"}
		}
		for _, k := range r.Kids {
			l = append(l, around(k, k.Op == api.RAlt)...)
		}
		return l
	case api.RAlt:
		for i, k := range r.Kids {
			if i > 0 {
				l = append(l, "|")
			}
			l = append(l, around(k, false)...)
		}
		return l
	}
	k := r.Kids[0]
	l = around(k, k.Op == api.RAlt || k.Op == api.RSeq && len(k.Kids) > 0)
	return append(l, map[api.RegexOp]string{api.RStar: "*", api.RPlus: "+", api.ROpt: "?"}[r.Op])
}

// printByWords is the lines of invariants that may be: a blank stands between two words of letters alone.
func printByWords(l []api.Invariant) string {
	text := ""
	for _, v := range l {
		row := []string{"invariant", v.Name, "packets", v.Packets, "from"}
		for i, n := range v.Ingress {
			if i > 0 {
				row = append(row, ",")
			}
			row = append(row, n)
		}
		row = append(row, "hops", strconv.Itoa(v.Hops), "count", []string{"==", "<=", ">="}[v.Compare-1], strconv.Itoa(v.Count), "path")
		row = append(row, pathByWords(v.Path)...)
		for i, w := range row {
			if i > 0 && !words.Sign(w) && !words.Sign(row[i-1]) {
				text += " "
			}
			text += w
		}
		text += "\n"
	}
	return text
}
