package fib_test

import (
	"math"
	"strings"
	"testing"
	"unsafe"

	"milestone/api"
	"milestone/fib"
)

// wrongActions are some of each kind that may not be.
func wrongActions() []api.Action {
	return []api.Action{
		{}, {Kind: 5}, {Kind: -1}, {Kind: math.MaxInt, Ports: []string{"p"}},
		{Kind: api.Drop, Ports: []string{"p"}}, {Kind: api.Deliver, Ports: []string{"p", "q"}},
		all(), anyOf(), all("q", "p"), anyOf("p", "p"), all("1p"), anyOf(""), all("\xff"), anyOf(make([]string, api.MaxPorts+1)...),
	}
}

// P6.1

func TestWrongWidths(t *testing.T) {
	for _, width := range []int{0, -1, api.MaxBits + 1, -api.MaxBits, 1 << 32, math.MaxInt, math.MinInt} {
		if x, e := fib.New(width); x != nil || e != api.ErrArg {
			t.Errorf("New(%d) = %v, %v", width, x, e)
		}
	}
}

// P6.2, P6.6: each change that may not be, alone, behind others that may be, and ahead of others that may not.

func askWrongChange(t *testing.T, want api.Errno, c api.Change) {
	t.Helper()
	x := newTable(t, 2, ruleOf(5, "1x", all("p")), ruleOf(9, "11", drop()))
	good := []api.Change{insert(7, "xx", drop()), modify(9, "11", deliver()), remove(5, "1x"), insert(5, "1x", all("p"))}
	askNoDo(t, x, 0, want, c)
	askNoDo(t, x, 4, want, append(good[:4:4], c)...)
	askNoDo(t, x, 1, want, good[0], c, api.Change{Kind: 7}, c)
	askNoDo(t, x, 0, want, append([]api.Change{c}, good...)...)
	askRules(t, x, ruleOf(9, "11", drop()), ruleOf(5, "1x", all("p")))
}

func TestWrongKinds(t *testing.T) {
	for _, k := range []api.ChangeKind{0, 4, -1, 5, math.MaxInt, math.MinInt, 1<<32 + 1} {
		// Ahead of all else that is wrong.
		askWrongChange(t, api.ErrChange, api.Change{Kind: k})
		askWrongChange(t, api.ErrChange, api.Change{Kind: k, Rule: ruleOf(5, "1x", all("p"))})
		askWrongChange(t, api.ErrChange, api.Change{Kind: k, Rule: ruleOf(-1, "2", drop())})
		askWrongChange(t, api.ErrChange, api.Change{Kind: k, Rule: ruleOf(4, "10", drop())})
	}
}

func TestRulesThatMayNotBe(t *testing.T) {
	for _, k := range []api.ChangeKind{api.Insert, api.Delete, api.Modify} {
		ask := func(want api.Errno, priority int, match string, a api.Action) {
			t.Helper()
			askWrongChange(t, want, api.Change{Kind: k, Rule: ruleOf(priority, match, a)})
		}
		for _, p := range []int{-1, -5, api.MaxPrio + 1, math.MaxInt, math.MinInt, 1<<32 + 5} {
			ask(api.ErrArg, p, "1x", drop())
			ask(api.ErrArg, p, "2", api.Action{})
			ask(api.ErrArg, p, "x", drop())
		}
		for _, c := range []string{"", "2", "1X", "1 ", "\xff", "1x2", strings.Repeat("x", api.MaxBits+1)} {
			ask(api.ErrCube, 5, c, drop())
			ask(api.ErrCube, 5, c, api.Action{})
		}
		for _, c := range []string{"1", "x", "1xx", strings.Repeat("1", api.MaxBits)} {
			ask(api.ErrWidth, 5, c, drop())
			ask(api.ErrWidth, 5, c, all())
		}
	}
}

func TestActionsThatMayNotBe(t *testing.T) {
	for _, a := range wrongActions() {
		askWrongChange(t, api.ErrAction, insert(4, "10", a))
		askWrongChange(t, api.ErrAction, modify(5, "1x", a))
		// Ahead of whether there is a rule with that key.
		askWrongChange(t, api.ErrAction, insert(5, "1x", a))
		askWrongChange(t, api.ErrAction, modify(4, "10", a))
		// Of a Delete it plays no part: what is wrong is something else.
		askWrongChange(t, api.ErrKey, api.Change{Kind: api.Delete, Rule: ruleOf(4, "10", a)})
	}
}

func TestKeysThatAreThereOrNot(t *testing.T) {
	askWrongChange(t, api.ErrSame, insert(5, "1x", all("p")))
	askWrongChange(t, api.ErrSame, insert(5, "1x", drop()))
	askWrongChange(t, api.ErrSame, insert(9, "11", deliver()))
	for _, r := range []api.Rule{ruleOf(5, "11", all("p")), ruleOf(9, "1x", drop()), ruleOf(5, "xx", drop()), ruleOf(5, "10", drop()), ruleOf(6, "1x", drop()), ruleOf(4, "1x", drop()), ruleOf(0, "xx", drop()), ruleOf(api.MaxPrio, "00", drop())} {
		askWrongChange(t, api.ErrKey, api.Change{Kind: api.Delete, Rule: r})
		askWrongChange(t, api.ErrKey, api.Change{Kind: api.Modify, Rule: r})
	}
	x := newTable(t, 1)
	askNoDo(t, x, 0, api.ErrKey, remove(0, "x"))
	askNoDo(t, x, 0, api.ErrKey, modify(0, "x", drop()))
}

// Of a full table a key that is there is told ahead of that there are too many, and what is no rule ahead of both.
func TestWhichErrorOfAFullTableIsFirst(t *testing.T) {
	x := newTable(t, 1)
	askDo(t, x, inserts(manyRules(api.MaxRules)...)...)
	askNoDo(t, x, 0, api.ErrSame, insert(10, "x", drop()))
	askNoDo(t, x, 0, api.ErrAction, insert(10, "x", all()))
	askNoDo(t, x, 0, api.ErrAction, insert(5, "x", all()))
	askNoDo(t, x, 0, api.ErrMany, insert(5, "x", drop()))
	askNoDo(t, x, 0, api.ErrMany, insert(5, "x", drop()), insert(10, "x", drop()))
	askNoDo(t, x, 1, api.ErrKey, remove(10, "x"), remove(10, "x"), insert(5, "x", drop()))
}

// P6.3

func TestTextsThatAreNoHeaders(t *testing.T) {
	for _, x := range []*fib.Table{newTable(t, 2), newTable(t, 2, ruleOf(5, "xx", drop())), newTable(t, 2, ruleOf(5, "11", all("p")))} {
		for _, s := range []string{"", "0", "1", "000", "1111", "x", "1x", "x1", "xx", "12", "2", "1 ", " 1", "1\n", "1X", "\xff\xff", "é", "00x", strings.Repeat("0", api.MaxBits), strings.Repeat("0", api.MaxBits+1)} {
			askNoHeader(t, x, s, api.ErrText)
		}
		for b := range 256 {
			if b != '0' && b != '1' {
				askNoHeader(t, x, "1"+string([]byte{byte(b)}), api.ErrText)
				askNoHeader(t, x, string([]byte{byte(b)})+"0", api.ErrText)
			}
		}
	}
	wide := newTable(t, api.MaxBits, ruleOf(5, strings.Repeat("x", api.MaxBits), drop()))
	askNoHeader(t, wide, strings.Repeat("0", api.MaxBits-1), api.ErrText)
	askNoHeader(t, wide, strings.Repeat("0", api.MaxBits+1), api.ErrText)
	askNoHeader(t, wide, strings.Repeat("0", api.MaxBits-1)+"x", api.ErrText)
}

// P6.5

func TestTextsThatMayNotBeLoaded(t *testing.T) {
	x := newTable(t, 2, ruleOf(5, "1x", all("p")), ruleOf(9, "11", drop()))
	askNoLoad(t, x, "rule 1 xx drop\nrule 2 x drop\n", 2, 8, api.ErrWidth)
	askNoLoad(t, x, "rule 1 xx drop\n\n rule 1 xx deliver", 3, 2, api.ErrSame)
	askNoLoad(t, x, "rule 1 xx drop\nrule 2 1%", 2, 9, api.ErrByte)
	askNoLoad(t, x, "drop", 1, 1, api.ErrRule)
	askNoLoad(t, x, "rule", 1, 5, api.ErrNumber)
	askNoLoad(t, x, "rule 1 12 drop", 1, 8, api.ErrCube)
	askNoLoad(t, x, "rule 1 xx", 1, 10, api.ErrAction)
	askNoLoad(t, x, "rule 1 xx all(", 1, 15, api.ErrName)
	askNoLoad(t, x, strings.Repeat(" ", api.MaxText+1), 0, 0, api.ErrLong)
	askRules(t, x, ruleOf(9, "11", drop()), ruleOf(5, "1x", all("p")))
	// A text's rules alone count, not those that the table has.
	askLoad(t, x, "rule 5 1x drop")
	askRules(t, x, ruleOf(5, "1x", drop()))
}

// After an error all goes on as if it had not been.
func TestGoingOnBehindErrors(t *testing.T) {
	x := newTable(t, 2, ruleOf(5, "1x", all("p")))
	askNoDo(t, x, 2, api.ErrKey, remove(5, "1x"), insert(6, "xx", drop()), remove(5, "1x"))
	askDo(t, x, insert(6, "xx", deliver()))
	askNoLoad(t, x, "rule 7 xx drop\nno", 2, 1, api.ErrRule)
	askDo(t, x, modify(5, "1x", all("q")))
	askRules(t, x, ruleOf(6, "xx", deliver()), ruleOf(5, "1x", all("q")))
	askMeets(t, x, "10", ruleOf(6, "xx", deliver()))
	askDead(t, x, ruleOf(5, "1x", all("q")))
}

// Rule 4: nothing that is handed in is changed, also behind the ends of lists, nor kept.

func TestNothingIsChanged(t *testing.T) {
	names := []string{"p", "q", "r", "behind"}
	whole := []api.Change{insert(1, "0", all(names[:3]...)), insert(5, "x", anyOf(names[1:2]...)), {Kind: api.Delete, Rule: ruleOf(1, "0", all(names[:2]...))}, modify(5, "x", all(names[2:3]...)), insert(9, "x", drop()), insert(0, "behind", drop())}
	before := toldChanges(whole...)
	x := newTable(t, 1)
	for _, l := range [][]api.Change{whole[:2], whole[:5], whole} {
		x.Undo(l...)
		x.Do(l...)
	}
	x.Do(whole[2:5]...)
	same(t, "the changes", toldChanges(whole...), before)
	same(t, "the ports", strings.Join(names, " "), "p q r behind")
	turned := []string{"q", "p", "p"}
	x.Do(insert(3, "0", all(turned...)))
	same(t, "ports that do not rise", strings.Join(turned, " "), "q p p")
}

func TestNothingIsKept(t *testing.T) {
	names := []string{"p", "q"}
	l := []api.Change{insert(1, "0", all(names...)), insert(5, "x", anyOf(names[1:]...)), insert(7, "1", drop()), modify(7, "1", all(names[:1]...))}
	x := newTable(t, 1)
	undo, _, _ := x.Undo(l...)
	was := toldChanges(undo...)
	askDo(t, x, l...)
	before := state(x)
	names[0], names[1] = "spoilt", "spoilt"
	clear(l)
	same(t, "the table", state(x), before)
	same(t, "what Undo told", toldChanges(undo...), was)
	askMeets(t, x, "0", ruleOf(5, "x", anyOf("q")))
	askMeets(t, x, "1", ruleOf(7, "1", all("p")))
}

// What is told is new memory: it may be spoilt, and grow, without a trace elsewhere.
func spoil(l []api.Rule) {
	for i := range l {
		spoilPorts(l[i].Action.Ports)
		_ = append(l[i].Action.Ports, "more")
	}
	_ = append(l, ruleOf(-1, "more", drop()))
	clear(l)
}

func spoilPorts(l []string) {
	for i := range l {
		l[i] = "spoilt"
	}
}

func TestNewMemory(t *testing.T) {
	x := newTable(t, 1, ruleOf(9, "x", all("p", "q")), ruleOf(5, "x", anyOf("p", "q")), ruleOf(4, "0", all("p", "q")))
	before := state(x)
	other := x.Rules()
	want := told(other...)
	spoil(x.Rules())
	dead, _ := x.Dead()
	spoil(dead)
	r, _, _ := x.Meets("0")
	spoilPorts(r.Action.Ports)
	a, _ := x.Lookup("1")
	spoilPorts(a.Ports)
	same(t, "the table", state(x), before)
	same(t, "another answer", told(other...), want)
	askLookup(t, x, "1", all("p", "q"))
	askDead(t, x, ruleOf(5, "x", anyOf("p", "q")), ruleOf(4, "0", all("p", "q")))
}

func TestNewMemoryOfUndo(t *testing.T) {
	x := newTable(t, 1, ruleOf(9, "x", all("p", "q")))
	before := state(x)
	l := []api.Change{modify(9, "x", anyOf("r", "s")), remove(9, "x"), insert(9, "x", all("t", "u")), modify(9, "x", all("p", "q"))}
	handed := toldChanges(l...)
	first, _, _ := x.Undo(l...)
	second, _, _ := x.Undo(l...)
	want := toldChanges(first...)
	for i := range second {
		spoilPorts(second[i].Rule.Action.Ports)
		_ = append(second[i].Rule.Action.Ports, "more")
	}
	clear(second)
	same(t, "the table", state(x), before)
	same(t, "what was handed in", toldChanges(l...), handed)
	same(t, "another answer", toldChanges(first...), want)
	// One list of an answer shares nothing with the others of it.
	for i := range first {
		rest := toldChanges(first[i+1:]...)
		spoilPorts(first[i].Rule.Action.Ports)
		same(t, "the rest of the answer", toldChanges(first[i+1:]...), rest)
	}
	third, _, _ := x.Undo(l...)
	same(t, "the next answer", toldChanges(third...), want)
}

// sameMemory tells whether two texts begin at one place.
func sameMemory(a, b string) bool { return unsafe.StringData(a) == unsafe.StringData(b) }

// Texts, too, are new memory, in the table and out of it.
func TestTextsAreNewMemory(t *testing.T) {
	given := ruleOf(5, strings.Clone("10"), all(strings.Clone("port")))
	x := newTable(t, 2, given)
	text := "rule 5 10 all(port)"
	loaded := newTable(t, 2)
	askLoad(t, loaded, text)
	undo, _, _ := x.Undo(remove(5, "10"))
	met, _, _ := x.Meets("10")
	l := []api.Rule{given, x.Rules()[0], x.Rules()[0], undo[0].Rule, met, loaded.Rules()[0]}
	for i, a := range l {
		same(t, "the rule", told(a), told(given))
		for _, b := range l[:i] {
			same(t, "one Match for two", sameMemory(a.Match, b.Match), false)
			same(t, "one port for two", sameMemory(a.Action.Ports[0], b.Action.Ports[0]), false)
		}
	}
	same(t, "a piece of the text", sameMemory(l[5].Match, text[7:]), false)
}

// Rule 3

func TestTablesThatNoCallMade(t *testing.T) {
	var none *fib.Table
	var zero fib.Table
	made := newTable(t, 1, ruleOf(5, "x", drop()))
	copied := *made
	for _, x := range []*fib.Table{none, &zero, new(fib.Table), {}, &copied} {
		same(t, "Width", x.Width(), 0)
		same(t, "Len", x.Len(), 0)
		same(t, "how many rules", len(x.Rules()), 0)
		for _, l := range [][]api.Change{nil, {insert(7, "x", drop())}, {{Kind: 9}}, {insert(7, "x", drop()), remove(5, "2")}} {
			askNoDo(t, x, 0, api.ErrNil, l...)
		}
		for _, s := range []string{"", "0", "x", "00"} {
			askNoHeader(t, x, s, api.ErrNil)
		}
		l, e := x.Dead()
		same(t, "how many are dead", len(l), 0)
		same(t, "Dead's error", e, api.ErrNil)
		s, e := x.Text()
		same(t, "Text", s, "")
		same(t, "Text's error", e, api.ErrNil)
		for _, s := range []string{"", "rule 5 x drop", "no"} {
			askNoLoad(t, x, s, 0, 0, api.ErrNil)
		}
	}
	askRules(t, made, ruleOf(5, "x", drop()))
}
