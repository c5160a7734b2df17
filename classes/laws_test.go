package classes_test

import (
	"math/rand"
	"slices"
	"testing"

	"milestone/api"
	"milestone/bdd"
	"milestone/classes"
)

// byWords are the headers of each action of rules, in the actions' order.
func byWords(t *testing.T, x *bdd.Table, l []api.Rule) []api.Class {
	t.Helper()
	var actions []api.Action
	headers := map[string][]string{}
	for _, h := range headersOf(x.Bits()) {
		a := doneByWords(l, h)
		if len(headers[toldAction(a)]) == 0 {
			actions = append(actions, a)
		}
		headers[toldAction(a)] = append(headers[toldAction(a)], h)
	}
	slices.SortFunc(actions, func(a, b api.Action) int {
		if aheadByWords(a, b) {
			return -1
		}
		return 1
	})
	var out []api.Class
	for _, a := range actions {
		out = append(out, classOf(setOf(t, x, headers[toldAction(a)]...), a))
	}
	return out
}

// askLaws asks for all that the document says of the classes of two devices' rules (P7.1 to P7.4, P7.6, P7.8).
func askLaws(t *testing.T, x *bdd.Table, l, other []api.Rule, where api.Ref) {
	t.Helper()
	a := askBuild(t, x, l, byWords(t, x, l)...)
	b := askBuild(t, x, other, byWords(t, x, other)...)
	parts, e := classes.Within(x, a, where)
	same(t, "Within's error", e, api.OK)
	shifts, e := classes.Changes(x, a, b)
	same(t, "Changes' error", e, api.OK)
	for _, h := range headersOf(x.Bits()) {
		before, after := doneByWords(l, h), doneByWords(other, h)
		askAt(t, x, a, h, before)
		in, _ := x.Has(where, h)
		askLies(t, x, parts, h, before, in)
		askShift(t, x, shifts, h, before, after)
	}
	for i, c := range parts {
		same(t, "a part that is empty", c.Where == 0, false)
		same(t, "a part ahead of the one in front of it", i > 0 && !classes.Ahead(parts[i-1].Action, c.Action), false)
	}
	for i, s := range shifts {
		same(t, "a shift that is empty", s.Where == 0, false)
		if i > 0 {
			was := shifts[i-1]
			rises := aheadByWords(was.From, s.From) || toldAction(was.From) == toldAction(s.From) && aheadByWords(was.To, s.To)
			same(t, "shifts in order", rises, true)
		}
	}
	askChanges(t, x, a, a)
	askChanges(t, x, b, b)
}

// askLies asks that a header lies in the class of its action alone, and only if it lies in the set.
func askLies(t *testing.T, x *bdd.Table, l []api.Class, header string, a api.Action, in bool) {
	t.Helper()
	found := 0
	for _, c := range l {
		if has, _ := x.Has(c.Where, header); has {
			found++
			same(t, "the action of "+header, toldAction(c.Action), toldAction(a))
		}
	}
	same(t, "in how many parts "+header+" lies", found, map[bool]int{true: 1}[in])
}

// askShift asks that a header lies in one shift, of its actions, if these are unlike, else in none.
func askShift(t *testing.T, x *bdd.Table, l []api.Shift, header string, from, to api.Action) {
	t.Helper()
	found := 0
	for _, s := range l {
		if has, _ := x.Has(s.Where, header); has {
			found++
			same(t, "the shift of "+header, toldAction(s.From)+toldAction(s.To), toldAction(from)+toldAction(to))
		}
	}
	same(t, "in how many shifts "+header+" lies", found, map[bool]int{true: 1}[toldAction(from) != toldAction(to)])
}

// smallRules are all of two bits and two Priorities, with some actions.
func smallRules() []api.Rule {
	actions := []api.Action{drop(), all("p"), anyOf("p"), all("p", "q"), deliver()}
	var l []api.Rule
	for _, first := range "01x" {
		for _, second := range "01x" {
			match := string([]rune{first, second})
			l = append(l, ruleOf(3, match, actions[len(l)%5]), ruleOf(7, match, actions[(len(l)+1)%5]))
		}
	}
	return l
}

// P7.1 to P7.4, P7.6, P7.8 of all small tables of at most three rules, each against the one ahead.
func TestSmallRulesByWords(t *testing.T) {
	x := newTable(t, 2)
	some := smallRules()
	sets := []api.Ref{0, 1, setOf(t, x, "1x"), setOf(t, x, "01"), setOf(t, x, "10", "01"), setOf(t, x, "0x", "11")}
	var was []api.Rule
	n := 0
	for i := range some {
		for j := range i + 1 {
			for k := range j + 1 {
				l := []api.Rule{some[i]}
				if j < i {
					l = append(l, some[j])
				}
				if k < j {
					l = append(l, some[k])
				}
				askLaws(t, x, l, was, sets[n%len(sets)])
				was = l
				n++
			}
		}
	}
}

// someRules are so many that nobody chose by hand, no two of one key.
func someRules(rnd *rand.Rand, n, width int) []api.Rule {
	actions := risingActions()
	var l []api.Rule
	for range n {
		match := make([]byte, width)
		for i := range match {
			match[i] = "01xx"[rnd.Intn(4)]
		}
		r := ruleOf(rnd.Intn(4), string(match), actions[rnd.Intn(len(actions))])
		if !slices.ContainsFunc(l, func(o api.Rule) bool { return o.Priority == r.Priority && o.Match == r.Match }) {
			l = append(l, r)
		}
	}
	return l
}

func TestSomeRulesByWords(t *testing.T) {
	rnd := rand.New(rand.NewSource(7))
	for range 60 {
		width := 1 + rnd.Intn(6)
		x := newTable(t, width)
		var cubes []string
		for _, r := range someRules(rnd, rnd.Intn(4), width) {
			cubes = append(cubes, r.Match)
		}
		askLaws(t, x, someRules(rnd, rnd.Intn(40), width), someRules(rnd, rnd.Intn(40), width), setOf(t, x, cubes...))
	}
}

// P7.7
func TestBuildInAnyOrder(t *testing.T) {
	l := []api.Rule{ruleOf(3, "11", drop()), ruleOf(2, "11", all("p")), ruleOf(1, "0x", all("r")), ruleOf(1, "00", deliver()), ruleOf(1, "x0", anyOf("p")), ruleOf(0, "xx", all("p", "q"))}
	x := newTable(t, 2)
	want := byWords(t, x, l)
	first := told(x, want...)
	var turn func(n int)
	turn = func(n int) {
		if n == len(l) {
			askBuild(t, x, l, want...)
			// A table that has told nothing yet.
			other := newTable(t, 2)
			same(t, "Build in a new table", told(other, build(t, other, l...)...), first)
		}
		for i := n; i < len(l); i++ {
			l[n], l[i] = l[i], l[n]
			turn(n + 1)
			l[n], l[i] = l[i], l[n]
		}
	}
	turn(0)
}

// Two tables know nothing of one another, and refs of one table hang on what it has told alone.
func TestAgain(t *testing.T) {
	rnd := rand.New(rand.NewSource(3))
	l := someRules(rnd, 30, 5)
	first, second, third := newTable(t, 5), newTable(t, 5), newTable(t, 5)
	a := build(t, first, l...)
	build(t, second, l[:10]...)
	b := build(t, third, l...)
	same(t, "the same calls of another table", slices.EqualFunc(a, b, sameClass), true)
	same(t, "the same rules in another table", told(second, build(t, second, l...)...), told(first, a...))
	for range 3 {
		askBuild(t, first, l, a...)
	}
}
