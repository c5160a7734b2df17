package fib

import (
	"slices"
	"sort"

	"milestone/api"
	"milestone/cube"
	"milestone/rules"
)

// ordered is rules in their order, no two of one key. The parts of a rule that stands in it are never changed: another rule comes in its stead, so that two lists may share them.
type ordered struct {
	width int
	list  []api.Rule
}

// find is the place of the rule with another one's key, and whether there is one; else where that one belongs.
func (o *ordered) find(r api.Rule) (int, bool) {
	at := sort.Search(len(o.list), func(i int) bool { return !rules.Ahead(o.list[i], r) })
	return at, at < len(o.list) && !rules.Ahead(r, o.list[at])
}

// isHeader tells whether a text is a header of the table's width.
func (o *ordered) isHeader(s string) bool {
	every, _ := cube.Every(o.width)
	_, e := cube.Has(every, s)
	return e == api.OK
}

// met is the place of the rule that a header meets; below 0: there is none.
func (o *ordered) met(header string) int {
	return slices.IndexFunc(o.list, func(r api.Rule) bool {
		has, _ := cube.Has(r.Match, header)
		return has
	})
}

// copies are rules in their order that share no memory with others.
func copies(l ...api.Rule) []api.Rule { return rules.Order(l) }

func copyOf(r api.Rule) api.Rule { return copies(r)[0] }
