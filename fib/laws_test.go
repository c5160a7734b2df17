package fib_test

import (
	"fmt"
	"slices"
	"strings"
	"testing"

	"milestone/api"
	"milestone/fib"
	"milestone/rules"
)

// byWords is a table as the document says it: of each key its action, in no order.
type byWords map[string]api.Action

func keyOf(r api.Rule) string { return fmt.Sprintf("%02d %s", r.Priority, r.Match) }

// doByWords does changes with a copy of a table: the number and error of the first that may not be, else the copy, and what undoes them.
func (m byWords) doByWords(l []api.Change) (done byWords, undo []api.Change, number int, e api.Errno) {
	done = byWords{}
	for k, a := range m {
		done[k] = a
	}
	for i, c := range l {
		k := keyOf(c.Rule)
		had, there := done[k]
		back := api.Change{Rule: c.Rule}
		switch {
		case c.Kind == api.Insert && rules.Check(c.Rule, 2) != api.OK, c.Kind == api.Modify && rules.Check(c.Rule, 2) != api.OK:
			return nil, nil, i, rules.Check(c.Rule, 2)
		case c.Kind == api.Insert && there:
			return nil, nil, i, api.ErrSame
		case c.Kind == api.Insert:
			done[k], back.Kind = c.Rule.Action, api.Delete
		case !there:
			return nil, nil, i, api.ErrKey
		case c.Kind == api.Delete:
			delete(done, k)
			back.Kind, back.Rule.Action = api.Insert, had
		case c.Kind == api.Modify:
			done[k], back.Kind, back.Rule.Action = c.Rule.Action, api.Modify, had
		}
		undo = append([]api.Change{back}, undo...)
	}
	return done, undo, 0, api.OK
}

// rulesByWords are a table's rules: each is put ahead of the first one ahead of which it stands.
func (m byWords) rulesByWords() []api.Rule {
	var l []api.Rule
	for k, a := range m {
		var r api.Rule
		fmt.Sscanf(k, "%d %s", &r.Priority, &r.Match)
		r.Action = a
		at := slices.IndexFunc(l, func(other api.Rule) bool {
			return r.Priority > other.Priority || r.Priority == other.Priority && r.Match < other.Match
		})
		if at < 0 {
			at = len(l)
		}
		l = slices.Insert(l, at, r)
	}
	return l
}

// headers are those of two bits.
var headers = []string{"00", "01", "10", "11"}

func liesIn(header, match string) bool {
	return (match[0] == 'x' || match[0] == header[0]) && (match[1] == 'x' || match[1] == header[1])
}

// meetsByWords is the number of the rule that a header meets; -1: none.
func meetsByWords(l []api.Rule, header string) int {
	return slices.IndexFunc(l, func(r api.Rule) bool { return liesIn(header, r.Match) })
}

// deadByWords are the rules that no header meets.
func deadByWords(l []api.Rule) []api.Rule {
	var dead []api.Rule
	for i, r := range l {
		if !slices.ContainsFunc(headers, func(h string) bool { return meetsByWords(l, h) == i }) {
			dead = append(dead, r)
		}
	}
	return dead
}

// textByWords is the rules' lines.
func textByWords(l []api.Rule) string {
	text := ""
	for _, r := range l {
		text += fmt.Sprintf("rule %d %s %s", r.Priority, r.Match, [...]string{"", "drop", "deliver", "all", "any"}[r.Action.Kind])
		if len(r.Action.Ports) > 0 {
			text += "(" + strings.Join(r.Action.Ports, ",") + ")"
		}
		text += "\n"
	}
	return text
}

// askTable asks all that a table tells of its rules (P6.1, P6.3, P6.4, P6.5), and what follows of it (P6.9, P6.10).
func askTable(t *testing.T, x *fib.Table, m byWords) {
	t.Helper()
	l := m.rulesByWords()
	askRules(t, x, l...)
	askText(t, x, textByWords(l))
	dead := deadByWords(l)
	askDead(t, x, dead...)
	other := newTable(t, 2)
	askLoad(t, other, textByWords(l))
	same(t, "Load of Text", state(other), state(x))
	var gone []api.Change
	for _, r := range dead {
		gone = append(gone, remove(r.Priority, r.Match))
	}
	askDo(t, other, gone...)
	askDead(t, other)
	for _, h := range headers {
		for _, y := range []*fib.Table{x, other} {
			if n := meetsByWords(l, h); n >= 0 {
				askMeets(t, y, h, l[n])
			} else {
				askMeetsNone(t, y, h)
			}
		}
	}
}

// someChanges are of three keys, and some that may not be.
var someChanges = []api.Change{
	insert(1, "1x", all("p")), insert(1, "1x", drop()), modify(1, "1x", anyOf("p", "q")), remove(1, "1x"),
	insert(1, "x1", drop()), modify(1, "x1", deliver()), remove(1, "x1"),
	insert(2, "11", all("q")), modify(2, "11", drop()), {Kind: api.Delete, Rule: ruleOf(2, "11", all("q"))},
	insert(0, "xx", all("r")), insert(2, "1", drop()), modify(2, "11", all()),
}

// someTables are what rows of changes begin with.
var someTables = [][]api.Rule{
	nil,
	{ruleOf(1, "1x", deliver())},
	{ruleOf(2, "11", all("p")), ruleOf(1, "0x", drop()), ruleOf(0, "x0", anyOf("q"))},
	{ruleOf(2, "0x", drop()), ruleOf(2, "11", drop()), ruleOf(1, "1x", all("p")), ruleOf(1, "x1", all("q")), ruleOf(0, "10", all("p"))},
}

// eachRow goes through all rows of at most so many changes of someChanges.
func eachRow(most int, do func(l []api.Change)) {
	var row func(l []api.Change)
	row = func(l []api.Change) {
		do(l)
		if len(l) == most {
			return
		}
		for _, c := range someChanges {
			row(append(l[:len(l):len(l)], c))
		}
	}
	row(nil)
}

// P6.2, P6.6, P6.7, P6.8, of all short rows of changes of some tables.
func TestChangesByWords(t *testing.T) {
	for _, begin := range someTables {
		m := byWords{}
		for _, r := range begin {
			m[keyOf(r)] = r.Action
		}
		eachRow(3, func(l []api.Change) {
			x := newTable(t, 2, begin...)
			done, undo, number, e := m.doByWords(l)
			if e != api.OK {
				askNoDo(t, x, number, e, l...)
				askRules(t, x, m.rulesByWords()...)
				return
			}
			askUndo(t, x, l, undo...)
			before := state(x)
			askDo(t, x, l...)
			askTable(t, x, done)
			askOneByOne(t, begin, l, state(x))
			askDo(t, x, undo...)
			same(t, "the table behind Undo's changes", state(x), before)
		})
	}
}

// askOneByOne asks for what changes make of rules if each has a Do of its own.
func askOneByOne(t *testing.T, begin []api.Rule, l []api.Change, want string) {
	t.Helper()
	x := newTable(t, 2, begin...)
	for _, c := range l {
		askDo(t, x, c)
	}
	same(t, "the table one by one", state(x), want)
}

// P6.7: changes of unlike keys, in any order.
func TestChangesInAnyOrder(t *testing.T) {
	begin := []api.Rule{ruleOf(2, "11", all("p")), ruleOf(1, "0x", drop()), ruleOf(0, "x0", anyOf("q"))}
	l := []api.Change{insert(3, "11", drop()), remove(2, "11"), modify(1, "0x", all("r")), insert(1, "00", deliver()), remove(0, "x0"), insert(0, "x1", all("s"))}
	want := "rule 3 11 drop\nrule 1 00 deliver\nrule 1 0x all(r)\nrule 0 x1 all(s)\n"
	var turn func(n int)
	turn = func(n int) {
		if n == len(l) {
			x := newTable(t, 2, begin...)
			undo, _, _ := x.Undo(l...)
			askDo(t, x, l...)
			askText(t, x, want)
			askDo(t, x, undo...)
			askRules(t, x, begin...)
		}
		for i := n; i < len(l); i++ {
			l[n], l[i] = l[i], l[n]
			turn(n + 1)
			l[n], l[i] = l[i], l[n]
		}
	}
	turn(0)
}

// P6.3, P6.4, P6.9, P6.10, of all tables of at most three rules of two bits and two Priorities.
func TestSmallTablesByWords(t *testing.T) {
	var some []api.Rule
	for _, first := range "01x" {
		for _, second := range "01x" {
			match := string([]rune{first, second})
			some = append(some, ruleOf(3, match, all("p")), ruleOf(7, match, anyOf("p", "q")))
		}
	}
	for i := range some {
		for j := range i + 1 {
			for k := range j + 1 {
				m := byWords{}
				for _, n := range []int{i, j, k} {
					m[keyOf(some[n])] = some[n].Action
				}
				x := newTable(t, 2)
				for key := range m {
					at := slices.IndexFunc(some, func(r api.Rule) bool { return keyOf(r) == key })
					askDo(t, x, inserts(some[at])...)
				}
				askTable(t, x, m)
			}
		}
	}
}

// P6.10 of what is at the edges.
func TestThereAndBackOfEdges(t *testing.T) {
	var l []api.Rule
	for i, p := range []int{0, 1, api.MaxPrio - 1, api.MaxPrio} {
		for j, c := range []string{"0", "1", "x", "01x0"} {
			match := strings.Repeat(c, api.MaxBits/len(c))
			l = append(l, ruleOf(p, match, []api.Action{drop(), deliver(), all("p"), anyOf("p", strings.Repeat("q", api.MaxName))}[(i+j)%4]))
		}
	}
	x := newTable(t, api.MaxBits, l...)
	s, e := x.Text()
	same(t, "Text's error", e, api.OK)
	other := newTable(t, api.MaxBits, ruleOf(5, strings.Repeat("x", api.MaxBits), drop()))
	askLoad(t, other, s)
	same(t, "the table", state(other), state(x))
	askLoad(t, x, s)
	same(t, "the table itself", state(other), state(x))
}

// The same calls are always answered alike.
func TestAgain(t *testing.T) {
	x := newTable(t, 2, someTables[3]...)
	first := state(x)
	dead, _ := x.Dead()
	undo, _, _ := x.Undo(remove(2, "0x"), insert(5, "xx", drop()))
	for range 3 {
		same(t, "the table again", state(x), first)
		askDead(t, x, dead...)
		askUndo(t, x, []api.Change{remove(2, "0x"), insert(5, "xx", drop())}, undo...)
		askLookup(t, x, "10", all("p"))
	}
}
