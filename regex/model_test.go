package regex_test

import (
	"regexp"
	"slices"
	"strings"

	"milestone/api"
)

// name is what a name is, by chapter 3.
var name = regexp.MustCompile(`^[a-zA-Z_][a-zA-Z0-9_-]{0,63}$`)

// faultByWords is the number of the first word with which no expression goes on; if there is none, of the 51st parenthesis that is open. What has been read is either whole (a part may end there) or wants more.
func faultByWords(l []string) (int, api.Errno) {
	open, whole, tooDeep := 0, false, 0
	for i, w := range l {
		ahead := ""
		if i > 0 {
			ahead = l[i-1]
		}
		goesOn := true
		switch {
		case ahead == "$":
			goesOn, whole = name.MatchString(w), true
		case name.MatchString(w) || w == ".":
			whole = true
		case w == "$":
			whole = false
		case w == "(":
			if open++; open == 51 && tooDeep == 0 {
				tooDeep = i
			}
			whole = false
		case w == ")":
			goesOn, whole = open > 0 && (whole || ahead == "("), true
			open--
		case w == "|":
			goesOn, whole = whole, false
		case w == "*" || w == "+" || w == "?":
			goesOn = whole
		default:
			goesOn = false
		}
		if !goesOn {
			return i, api.ErrSyntax
		}
	}
	if open > 0 || !whole {
		return len(l), api.ErrSyntax
	}
	if tooDeep > 0 {
		return tooDeep, api.ErrDeep
	}
	return 0, api.OK
}

// treeByWords is the expression of words that are one, from the loosest sign on.
func treeByWords(l []string) api.Regex {
	if parts := splitAt(l, "|"); len(parts) > 1 {
		return joined(api.RAlt, parts)
	}
	if parts := splitAt(l, ""); len(parts) > 1 {
		return joined(api.RSeq, parts)
	}
	last := len(l) - 1
	switch l[last] {
	case "*":
		return star(treeByWords(l[:last]))
	case "+":
		return plus(treeByWords(l[:last]))
	case "?":
		return opt(treeByWords(l[:last]))
	case ".":
		return anyOne()
	case ")":
		if last == 1 {
			return seq()
		}
		return treeByWords(l[1:last])
	}
	if l[0] == "$" {
		return class(l[1])
	}
	return device(l[0])
}

// splitAt are the parts of words outside of all parentheses: those between a sign, or, without one, each Kid with the signs behind it.
func splitAt(l []string, sign string) [][]string {
	var parts [][]string
	open, from := 0, 0
	for i, w := range l {
		if open == 0 && sign == "" && i > from && !strings.Contains("*+?", w) && l[i-1] != "$" {
			parts, from = append(parts, l[from:i]), i
		}
		if w == "(" {
			open++
		} else if w == ")" {
			open--
		}
		if open == 0 && sign != "" && w == sign {
			parts, from = append(parts, l[from:i]), i+1
		}
	}
	return append(parts, l[from:])
}

// joined is one expression of parts, with none of its own kind in it, and none with one Kid.
func joined(op api.RegexOp, parts [][]string) api.Regex {
	r := api.Regex{Op: op}
	for _, p := range parts {
		r.Kids = append(r.Kids, treeByWords(p))
	}
	for i := slices.IndexFunc(r.Kids, func(k api.Regex) bool { return k.Op == op }); i >= 0; i = slices.IndexFunc(r.Kids, func(k api.Regex) bool { return k.Op == op }) {
		r.Kids = slices.Replace(slices.Clone(r.Kids), i, i+1, r.Kids[i].Kids...)
	}
	if len(r.Kids) == 1 {
		return r.Kids[0]
	}
	return r
}

// sizeByWords is how many nodes there are, and how deep.
func sizeByWords(r api.Regex) (nodes, deep int) {
	for _, k := range r.Kids {
		n, d := sizeByWords(k)
		nodes, deep = nodes+n, max(deep, d)
	}
	return nodes + 1, deep + 1
}

// isOneOf tells whether a path is one of an expression, by trying all ways to part it.
func isOneOf(path []api.Who, r api.Regex) bool {
	switch r.Op {
	case api.RDevice:
		return len(path) == 1 && path[0].Name == r.Name
	case api.RClass:
		return len(path) == 1 && slices.Contains(path[0].Classes, r.Name)
	case api.RAny:
		return len(path) == 1
	case api.RSeq:
		return isRowOf(path, r.Kids)
	case api.RAlt:
		return slices.ContainsFunc(r.Kids, func(k api.Regex) bool { return isOneOf(path, k) })
	case api.ROpt:
		return len(path) == 0 || isOneOf(path, r.Kids[0])
	case api.RPlus:
		return isOneOf(path, r.Kids[0]) || len(path) > 0 && areSomeOf(path, r.Kids[0])
	}
	return areSomeOf(path, r.Kids[0])
}

func isRowOf(path []api.Who, kids []api.Regex) bool {
	if len(kids) == 0 {
		return len(path) == 0
	}
	for n := range len(path) + 1 {
		if isOneOf(path[:n], kids[0]) && isRowOf(path[n:], kids[1:]) {
			return true
		}
	}
	return false
}

// areSomeOf tells whether a path is any number of paths, none of them empty, one behind the other.
func areSomeOf(path []api.Who, kid api.Regex) bool {
	if len(path) == 0 {
		return true
	}
	for n := 1; n <= len(path); n++ {
		if isOneOf(path[:n], kid) && areSomeOf(path[n:], kid) {
			return true
		}
	}
	return false
}

// pattern is an expression for the library's own: devices are their names' letters, and the class x has b.
func pattern(r api.Regex) string {
	var kids []string
	for _, k := range r.Kids {
		kids = append(kids, "(?:"+pattern(k)+")")
	}
	switch r.Op {
	case api.RDevice:
		return r.Name
	case api.RClass:
		return "[b]"
	case api.RAny:
		return "."
	case api.RAlt:
		return strings.Join(kids, "|")
	}
	return strings.Join(kids, "") + map[api.RegexOp]string{api.RStar: "*", api.RPlus: "+", api.ROpt: "?"}[r.Op]
}
