package fib_test

import (
	"fmt"
	"slices"
	"strings"
	"testing"

	"milestone/api"
	"milestone/fib"
)

func TestExampleOfTheDocument(t *testing.T) {
	x := newTable(t, 2)
	askDo(t, x, insert(5, "1x", all("p")), insert(9, "11", drop()))
	askLookup(t, x, "11", drop())
	askLookup(t, x, "10", all("p"))
	askLookup(t, x, "00", drop())
	askDead(t, x)
	askDo(t, x, insert(1, "11", deliver()))
	askDead(t, x, ruleOf(1, "11", deliver()))
}

// P6.1

func TestNew(t *testing.T) {
	for width := 1; width <= api.MaxBits; width++ {
		x := newTable(t, width)
		same(t, "Width", x.Width(), width)
		askRules(t, x)
		askText(t, x, "")
		askDead(t, x)
		askMeetsNone(t, x, strings.Repeat("0", width))
		askMeetsNone(t, x, strings.Repeat("1", width))
	}
}

// Rules are told in order, in whichever they were put in: of a greater Priority first, of alike ones by their Match.
func TestRulesInOrder(t *testing.T) {
	want := []api.Rule{
		ruleOf(api.MaxPrio, "xx", drop()), ruleOf(10, "11", all("p")), ruleOf(9, "00", drop()), ruleOf(9, "0x", anyOf("p", "q")),
		ruleOf(9, "1x", drop()), ruleOf(9, "x0", deliver()), ruleOf(9, "xx", drop()), ruleOf(0, "00", deliver()),
	}
	for seed := range 200 {
		l := slices.Clone(want)
		for i := range l {
			j := (seed*7 + i*i + seed/8) % len(l)
			l[i], l[j] = l[j], l[i]
		}
		askRules(t, newTable(t, 2, l...), want...)
		x := newTable(t, 2)
		askDo(t, x, inserts(l...)...)
		askRules(t, x, want...)
	}
}

func TestRulesAheadBetweenAndBehind(t *testing.T) {
	a, b, c, d, e := ruleOf(9, "x", drop()), ruleOf(5, "0", drop()), ruleOf(5, "1", drop()), ruleOf(5, "x", all("p")), ruleOf(1, "x", deliver())
	x := newTable(t, 1, c)
	askRules(t, x, c)
	askDo(t, x, inserts(a)...)
	askRules(t, x, a, c)
	askDo(t, x, inserts(e)...)
	askRules(t, x, a, c, e)
	askDo(t, x, inserts(d)...)
	askRules(t, x, a, c, d, e)
	askDo(t, x, inserts(b)...)
	askRules(t, x, a, b, c, d, e)
	askDo(t, x, remove(5, "1"))
	askRules(t, x, a, b, d, e)
	askDo(t, x, remove(9, "x"))
	askRules(t, x, b, d, e)
	askDo(t, x, remove(1, "x"))
	askRules(t, x, b, d)
	askDo(t, x, remove(5, "0"), remove(5, "x"))
	askRules(t, x)
}

// P6.2

func TestDoOfNothing(t *testing.T) {
	x := newTable(t, 1)
	askDo(t, x)
	askDo(t, x, []api.Change{}...)
	askRules(t, x)
	x = newTable(t, 1, ruleOf(1, "x", drop()))
	askDo(t, x)
	askRules(t, x, ruleOf(1, "x", drop()))
}

func TestModify(t *testing.T) {
	x := newTable(t, 1, ruleOf(9, "x", drop()), ruleOf(5, "0", drop()), ruleOf(5, "1", all("p")))
	askDo(t, x, modify(5, "0", anyOf("q", "r")))
	askRules(t, x, ruleOf(9, "x", drop()), ruleOf(5, "0", anyOf("q", "r")), ruleOf(5, "1", all("p")))
	askDo(t, x, modify(5, "1", deliver()), modify(9, "x", all("p")))
	askRules(t, x, ruleOf(9, "x", all("p")), ruleOf(5, "0", anyOf("q", "r")), ruleOf(5, "1", deliver()))
	askDo(t, x, modify(5, "1", deliver()))
	askRules(t, x, ruleOf(9, "x", all("p")), ruleOf(5, "0", anyOf("q", "r")), ruleOf(5, "1", deliver()))
}

// Of a Delete the key alone counts.
func TestDeleteWhateverTheAction(t *testing.T) {
	for _, a := range append(wrongActions(), drop(), deliver(), all("p"), anyOf("other")) {
		x := newTable(t, 1, ruleOf(5, "1", all("p")), ruleOf(5, "x", drop()))
		askDo(t, x, api.Change{Kind: api.Delete, Rule: ruleOf(5, "1", a)})
		askRules(t, x, ruleOf(5, "x", drop()))
	}
}

// Changes of one key, each behind the other.
func TestChangesOfOneKey(t *testing.T) {
	x := newTable(t, 1)
	askDo(t, x, insert(5, "1", drop()), modify(5, "1", all("p")), modify(5, "1", all("q")))
	askRules(t, x, ruleOf(5, "1", all("q")))
	askDo(t, x, remove(5, "1"), insert(5, "1", deliver()), remove(5, "1"), insert(5, "1", drop()))
	askRules(t, x, ruleOf(5, "1", drop()))
	askDo(t, x, modify(5, "1", deliver()), remove(5, "1"))
	askRules(t, x)
	askDo(t, x, insert(5, "1", drop()), remove(5, "1"))
	askRules(t, x)
	askNoDo(t, x, 2, api.ErrKey, insert(5, "1", drop()), remove(5, "1"), modify(5, "1", drop()))
	askNoDo(t, x, 1, api.ErrSame, insert(5, "1", drop()), insert(5, "1", drop()))
	askNoDo(t, x, 2, api.ErrKey, insert(5, "1", drop()), remove(5, "1"), remove(5, "1"))
}

func TestEdgesOfRules(t *testing.T) {
	wide := strings.Repeat("01x0", api.MaxBits/4)
	x := newTable(t, api.MaxBits, ruleOf(0, wide, drop()), ruleOf(api.MaxPrio, wide, deliver()))
	askRules(t, x, ruleOf(api.MaxPrio, wide, deliver()), ruleOf(0, wide, drop()))
	askMeets(t, x, strings.ReplaceAll(wide, "x", "1"), ruleOf(api.MaxPrio, wide, deliver()))
	askMeetsNone(t, x, strings.Repeat("1", api.MaxBits))
	askDead(t, x, ruleOf(0, wide, drop()))
	var ports []string
	for i := range api.MaxPorts {
		ports = append(ports, fmt.Sprintf("p%02d%s", i, strings.Repeat("n", api.MaxName-3)))
	}
	x = newTable(t, 1, ruleOf(1, "x", all(ports...)))
	askMeets(t, x, "0", ruleOf(1, "x", all(ports...)))
}

func TestAsManyRulesAsMayBe(t *testing.T) {
	l := manyRules(api.MaxRules)
	x := newTable(t, 1)
	askDo(t, x, inserts(l...)...)
	askRules(t, x, l...)
	one := insert(5, "0", drop())
	askNoDo(t, x, 0, api.ErrMany, one)
	askNoDo(t, x, 1, api.ErrMany, modify(10, "x", deliver()), one)
	// One that goes makes room for one.
	askDo(t, x, remove(10, "x"), one)
	askRules(t, x, append(slices.Clone(l[:api.MaxRules-1]), one.Rule)...)
	askNoDo(t, x, 0, api.ErrMany, insert(10, "x", drop()), remove(5, "0"))
	askNoDo(t, x, 2, api.ErrMany, remove(5, "0"), insert(10, "x", drop()), one)
	askDo(t, x, remove(5, "0"))
	askRules(t, x, l[:api.MaxRules-1]...)
	askDo(t, x, one)
	same(t, "Len", x.Len(), api.MaxRules)
	// One by one, from the last on.
	slices.Reverse(l)
	askRules(t, newTable(t, 1, l...), manyRules(api.MaxRules)...)
}

// P6.3

func TestMeetsTheFirstTheLastNone(t *testing.T) {
	a, b, c := ruleOf(9, "11x", drop()), ruleOf(5, "1xx", all("p")), ruleOf(1, "x1x", deliver())
	x := newTable(t, 3, b, c, a)
	for header, want := range map[string]api.Rule{"110": a, "111": a, "100": b, "101": b, "010": c, "011": c} {
		askMeets(t, x, header, want)
	}
	askMeetsNone(t, x, "000")
	askMeetsNone(t, x, "001")
}

// Of alike Priorities the one with the lesser Match is met, in whichever order they came.
func TestMeetsOfAlikePriorities(t *testing.T) {
	a, b, c := ruleOf(5, "10", drop()), ruleOf(5, "1x", all("p")), ruleOf(5, "x0", deliver())
	for _, l := range [][]api.Rule{{a, b, c}, {a, c, b}, {b, a, c}, {b, c, a}, {c, a, b}, {c, b, a}} {
		x := newTable(t, 2, l...)
		askMeets(t, x, "10", a)
		askMeets(t, x, "11", b)
		askMeets(t, x, "00", c)
		askMeetsNone(t, x, "01")
	}
}

// A rule that drops is one, though no rule drops, too.
func TestMeetsARuleThatDrops(t *testing.T) {
	x := newTable(t, 1, ruleOf(0, "1", drop()))
	askMeets(t, x, "1", ruleOf(0, "1", drop()))
	askMeetsNone(t, x, "0")
}

func TestMeetsTheLastOfMany(t *testing.T) {
	var l []api.Rule
	for i := range api.MaxRules - 1 {
		l = append(l, ruleOf(i+1, "1", drop()))
	}
	last := ruleOf(0, "x", anyOf("p"))
	x := newTable(t, 1)
	askDo(t, x, inserts(append(l, last)...)...)
	askMeets(t, x, "0", last)
	askMeets(t, x, "1", l[len(l)-1])
}

// P6.4

func TestDeadBecauseOfOne(t *testing.T) {
	x := newTable(t, 2, ruleOf(9, "1x", drop()), ruleOf(5, "10", all("p")), ruleOf(5, "1x", deliver()), ruleOf(5, "x0", drop()), ruleOf(4, "10", drop()))
	askDead(t, x, ruleOf(5, "10", all("p")), ruleOf(5, "1x", deliver()), ruleOf(4, "10", drop()))
}

func TestDeadBecauseOfSeveral(t *testing.T) {
	x := newTable(t, 2, ruleOf(9, "00", drop()), ruleOf(8, "x1", drop()), ruleOf(7, "10", drop()))
	askDead(t, x)
	last := ruleOf(6, "xx", all("p"))
	askDo(t, x, inserts(last)...)
	askDead(t, x, last)
	askDo(t, x, remove(7, "10"))
	askDead(t, x)
	// A dead rule ahead, alone, makes none dead; rules behind make none dead.
	askDo(t, x, insert(1, "xx", drop()), insert(7, "01", drop()), insert(5, "0x", drop()))
	askDead(t, x, ruleOf(7, "01", drop()), ruleOf(5, "0x", drop()), ruleOf(1, "xx", drop()))
}

func TestDeadOfAlikePriorities(t *testing.T) {
	x := newTable(t, 1, ruleOf(5, "x", drop()), ruleOf(5, "1", drop()), ruleOf(5, "0", drop()))
	askDead(t, x, ruleOf(5, "x", drop()))
	askDo(t, x, remove(5, "0"))
	askDead(t, x)
}

func TestDeadOfMany(t *testing.T) {
	l := manyRules(api.MaxRules)
	x := newTable(t, 1)
	askDo(t, x, inserts(l...)...)
	askDead(t, x, l[1:]...)
	askDo(t, x, remove(l[0].Priority, "x"), insert(api.MaxPrio, "1", drop()))
	askDead(t, x, l[2:]...)
}

// block is a cube of a width that is fixed in one piece of it.
func block(width, from, n int) string {
	return strings.Repeat("x", from) + strings.Repeat("1", n) + strings.Repeat("x", width-from-n)
}

// blocks are rules that leave 32 * 32 * 16 = MaxCubes parts of all headers that begin so.
func blocks(beginning string) []api.Rule {
	return []api.Rule{
		ruleOf(9, beginning+block(80, 0, 32), drop()), ruleOf(8, beginning+block(80, 32, 32), drop()), ruleOf(7, beginning+block(80, 64, 16), drop()),
	}
}

func TestDeadAtMostCubes(t *testing.T) {
	x := newTable(t, 80, append(blocks(""), ruleOf(1, block(80, 0, 0), drop()))...)
	askDead(t, x)
	// A dead rule ahead takes no part of them.
	askDo(t, x, insert(2, block(80, 0, 33), drop()))
	askDead(t, x, ruleOf(2, block(80, 0, 33), drop()))
	askDo(t, x, insert(0, block(80, 0, 1), drop()))
	askDead(t, x, ruleOf(2, block(80, 0, 33), drop()), ruleOf(0, block(80, 0, 1), drop()))
}

// There are too many parts on the way, though at last none would be left, and whichever rules are dead otherwise.
func TestDeadAboveMostCubes(t *testing.T) {
	every, half := block(81, 0, 0), "1"+block(80, 0, 0)
	whole, early := ruleOf(1, every, drop()), ruleOf(6, "0"+block(80, 0, 40), drop())
	x := newTable(t, 81, append(blocks("0"), whole)...)
	for _, l := range [][]api.Rule{nil, {ruleOf(3, every, drop())}, {ruleOf(0, half, drop())}, {early}} {
		askDo(t, x, inserts(l...)...)
		before := state(x)
		if dead, e := x.Dead(); len(dead) != 0 || e != api.ErrMany {
			t.Errorf("Dead = %.80s, %v", told(dead...), e)
		}
		same(t, "the table", state(x), before)
	}
	askDo(t, x, insert(10, half, drop()))
	askDead(t, x, early, whole, ruleOf(0, half, drop()))
}

// P6.5

func TestText(t *testing.T) {
	x := newTable(t, 3, ruleOf(5, "10x", anyOf("p1", "p2")), ruleOf(7, "xxx", drop()), ruleOf(5, "0xx", all("p")), ruleOf(6, "111", deliver()))
	askText(t, x, "rule 7 xxx drop\nrule 6 111 deliver\nrule 5 0xx all(p)\nrule 5 10x any(p1,p2)\n")
}

func TestLoad(t *testing.T) {
	x := newTable(t, 2, ruleOf(5, "10", drop()), ruleOf(1, "xx", drop()))
	askLoad(t, x, " rule 1 xx any(q,p,q) # some\n\nrule 5 11 deliver\nrule 5 10 all(p)")
	askRules(t, x, ruleOf(5, "10", all("p")), ruleOf(5, "11", deliver()), ruleOf(1, "xx", anyOf("p", "q")))
	askMeets(t, x, "10", ruleOf(5, "10", all("p")))
	askMeets(t, x, "00", ruleOf(1, "xx", anyOf("p", "q")))
	askDo(t, x, insert(3, "0x", drop()), remove(5, "11"), modify(1, "xx", drop()))
	askText(t, x, "rule 5 10 all(p)\nrule 3 0x drop\nrule 1 xx drop\n")
	same(t, "Width", x.Width(), 2)
}

func TestLoadOfNoRule(t *testing.T) {
	for _, s := range []string{"", "\n", " # rule 5 10 drop\n\n"} {
		x := newTable(t, 2, ruleOf(5, "10", drop()))
		askLoad(t, x, s)
		askRules(t, x)
		askText(t, x, "")
		askDo(t, x, insert(5, "10", drop()))
		askRules(t, x, ruleOf(5, "10", drop()))
	}
}

func TestLoadOfAsManyAsMayBe(t *testing.T) {
	l := manyRules(api.MaxRules)
	x := newTable(t, 1)
	askDo(t, x, inserts(l...)...)
	s, _ := x.Text()
	other := newTable(t, 1, ruleOf(3, "x", drop()))
	askLoad(t, other, s)
	askRules(t, other, l...)
	askNoDo(t, other, 0, api.ErrMany, insert(3, "x", drop()))
	askNoLoad(t, other, s+"rule 3 x drop", api.MaxRules+1, 1, api.ErrMany)
}

// P6.6

func TestUndoOfOne(t *testing.T) {
	x := newTable(t, 1, ruleOf(5, "1", all("p", "q")), ruleOf(5, "x", drop()))
	askUndo(t, x, nil)
	askUndo(t, x, []api.Change{insert(7, "0", anyOf("r"))}, api.Change{Kind: api.Delete, Rule: ruleOf(7, "0", anyOf("r"))})
	askUndo(t, x, []api.Change{remove(5, "1")}, insert(5, "1", all("p", "q")))
	askUndo(t, x, []api.Change{{Kind: api.Delete, Rule: ruleOf(5, "1", all("no"))}}, insert(5, "1", all("p", "q")))
	askUndo(t, x, []api.Change{modify(5, "1", deliver())}, modify(5, "1", all("p", "q")))
	askUndo(t, x, []api.Change{modify(5, "x", drop())}, modify(5, "x", drop()))
}

// The last one's first, each as things stood when its turn had come.
func TestUndoOfMany(t *testing.T) {
	x := newTable(t, 1, ruleOf(5, "1", all("p")), ruleOf(5, "x", drop()))
	l := []api.Change{modify(5, "1", anyOf("a")), modify(5, "1", anyOf("b")), remove(5, "1"), insert(5, "1", deliver()), modify(5, "1", drop()), insert(9, "0", drop()), remove(5, "x")}
	want := []api.Change{insert(5, "x", drop()), {Kind: api.Delete, Rule: ruleOf(9, "0", drop())}, modify(5, "1", deliver()), {Kind: api.Delete, Rule: ruleOf(5, "1", deliver())}, insert(5, "1", anyOf("b")), modify(5, "1", anyOf("a")), modify(5, "1", all("p"))}
	undo := askUndo(t, x, l, want...)
	before := state(x)
	askDo(t, x, l...)
	askRules(t, x, ruleOf(9, "0", drop()), ruleOf(5, "1", drop()))
	askDo(t, x, undo...)
	same(t, "the table", state(x), before)
}

// P6.8 of a full table.
func TestUndoOfAFullTable(t *testing.T) {
	x := newTable(t, 1)
	askDo(t, x, inserts(manyRules(api.MaxRules)...)...)
	before := state(x)
	l := []api.Change{remove(10, "x"), insert(5, "0", all("p")), remove(20, "x"), insert(20, "0", drop())}
	undo, _, _ := x.Undo(l...)
	askDo(t, x, l...)
	askDo(t, x, undo...)
	same(t, "the table", state(x), before)
	var none []api.Change
	for _, r := range x.Rules() {
		none = append(none, remove(r.Priority, r.Match))
	}
	undo, _, _ = x.Undo(none...)
	askDo(t, x, none...)
	askRules(t, x)
	askDo(t, x, undo...)
	same(t, "the table", state(x), before)
}

// Rule 5: what one table is given another one does not know.
func TestTwoTables(t *testing.T) {
	x, y := newTable(t, 1), newTable(t, 1)
	askDo(t, x, insert(5, "1", drop()))
	askRules(t, y)
	askDo(t, y, insert(5, "1", deliver()), insert(6, "x", drop()))
	askRules(t, x, ruleOf(5, "1", drop()))
	askLoad(t, y, "rule 1 0 deliver")
	askDo(t, x, remove(5, "1"))
	askRules(t, y, ruleOf(1, "0", deliver()))
	var z *fib.Table
	same(t, "Len of none", z.Len(), 0)
}
