package classes_test

import (
	"fmt"
	"math"
	"strings"
	"testing"

	"milestone/api"
	"milestone/bdd"
	"milestone/classes"
)

func TestExampleOfTheDocument(t *testing.T) {
	x := newTable(t, 2)
	l := []api.Rule{ruleOf(5, "1x", deliver()), ruleOf(3, "xx", all("p"))}
	askBuild(t, x, l, classOf(setOf(t, x, "1x"), deliver()), classOf(setOf(t, x, "0x"), all("p")))
	askBuild(t, x, nil, classOf(1, drop()))
}

// P7.1

func TestBuildOfNoRule(t *testing.T) {
	for _, width := range []int{1, 2, api.MaxBits} {
		x := newTable(t, width)
		askBuild(t, x, nil, classOf(1, drop()))
		askBuild(t, x, []api.Rule{}, classOf(1, drop()))
		same(t, "how many nodes were told", x.Size(), 0)
	}
}

func TestBuildOfOneRule(t *testing.T) {
	x := newTable(t, 1)
	for _, a := range []api.Action{deliver(), all("p"), anyOf("p", "q")} {
		askBuild(t, x, []api.Rule{ruleOf(0, "x", a)}, classOf(1, a))
		askBuild(t, x, []api.Rule{ruleOf(0, "1", a)}, classOf(setOf(t, x, "0"), drop()), classOf(setOf(t, x, "1"), a))
		askBuild(t, x, []api.Rule{ruleOf(api.MaxPrio, "0", a)}, classOf(setOf(t, x, "1"), drop()), classOf(setOf(t, x, "0"), a))
	}
	askBuild(t, x, []api.Rule{ruleOf(7, "1", drop())}, classOf(1, drop()))
	askBuild(t, x, []api.Rule{ruleOf(7, "x", drop())}, classOf(1, drop()))
}

func TestBuildOfMaxBits(t *testing.T) {
	x := newTable(t, api.MaxBits)
	every := strings.Repeat("x", api.MaxBits)
	first, last := "1"+every[1:], every[1:]+"1"
	both := "1" + every[2:] + "1"
	l := []api.Rule{ruleOf(1, first, all("p")), ruleOf(2, last, anyOf("p"))}
	askBuild(t, x, l,
		classOf(setOf(t, x, "0"+every[2:]+"0"), drop()),
		classOf(setOf(t, x, "1"+every[2:]+"0"), all("p")),
		classOf(setOf(t, x, last), anyOf("p")))
	askBuild(t, x, append(l, ruleOf(3, both, all("p")), ruleOf(0, every, deliver())),
		classOf(setOf(t, x, "0"+every[2:]+"0"), deliver()),
		classOf(setOf(t, x, first), all("p")),
		classOf(setOf(t, x, "0"+every[2:]+"1"), anyOf("p")))
}

// Of alike Priorities the lesser Match is met: 0 ahead of 1 ahead of x, whatever the order in which they stand.
func TestBuildOfAlikePriorities(t *testing.T) {
	x := newTable(t, 2)
	askBuild(t, x, []api.Rule{ruleOf(5, "xx", all("c")), ruleOf(5, "x1", all("b")), ruleOf(5, "1x", all("a"))},
		classOf(setOf(t, x, "1x"), all("a")), classOf(setOf(t, x, "01"), all("b")), classOf(setOf(t, x, "00"), all("c")))
	askBuild(t, x, []api.Rule{ruleOf(5, "1x", all("a")), ruleOf(5, "11", all("b")), ruleOf(5, "0x", drop()), ruleOf(5, "00", deliver())},
		classOf(setOf(t, x, "01"), drop()), classOf(setOf(t, x, "00"), deliver()), classOf(setOf(t, x, "10"), all("a")), classOf(setOf(t, x, "11"), all("b")))
	// A greater Priority goes first nevertheless.
	askBuild(t, x, []api.Rule{ruleOf(5, "11", all("a")), ruleOf(6, "xx", all("b"))}, classOf(1, all("b")))
}

// The action of a rule that no header meets is no class.
func TestBuildOfDeadRules(t *testing.T) {
	x := newTable(t, 2)
	askBuild(t, x, []api.Rule{ruleOf(9, "1x", deliver()), ruleOf(8, "0x", all("p")), ruleOf(7, "xx", all("q")), ruleOf(6, "01", anyOf("q")), ruleOf(9, "x0", deliver())},
		classOf(setOf(t, x, "1x", "x0"), deliver()), classOf(setOf(t, x, "01"), all("p")))
	askBuild(t, x, []api.Rule{ruleOf(9, "xx", deliver()), ruleOf(8, "xx", drop())}, classOf(1, deliver()))
	// One that no header meets, of an action that others have.
	askBuild(t, x, []api.Rule{ruleOf(9, "1x", deliver()), ruleOf(8, "11", all("p")), ruleOf(7, "01", all("p"))},
		classOf(setOf(t, x, "00"), drop()), classOf(setOf(t, x, "1x"), deliver()), classOf(setOf(t, x, "01"), all("p")))
}

func TestWhatIsLeftIsDropped(t *testing.T) {
	x := newTable(t, 2)
	// By a rule, by none, and by both: one class.
	askBuild(t, x, []api.Rule{ruleOf(5, "1x", deliver()), ruleOf(3, "xx", drop())}, classOf(setOf(t, x, "0x"), drop()), classOf(setOf(t, x, "1x"), deliver()))
	askBuild(t, x, []api.Rule{ruleOf(5, "1x", deliver())}, classOf(setOf(t, x, "0x"), drop()), classOf(setOf(t, x, "1x"), deliver()))
	askBuild(t, x, []api.Rule{ruleOf(9, "11", drop()), ruleOf(5, "1x", deliver())}, classOf(setOf(t, x, "0x", "11"), drop()), classOf(setOf(t, x, "10"), deliver()))
	askBuild(t, x, []api.Rule{ruleOf(5, "1x", deliver()), ruleOf(3, "0x", all("p"))}, classOf(setOf(t, x, "1x"), deliver()), classOf(setOf(t, x, "0x"), all("p")))
}

func TestSeveralRulesOfOneAction(t *testing.T) {
	x := newTable(t, 2)
	askBuild(t, x, []api.Rule{ruleOf(1, "11", anyOf("p", "q")), ruleOf(2, "00", anyOf("p", "q")), ruleOf(3, "x0", deliver()), ruleOf(0, "xx", anyOf("p", "q"))},
		classOf(setOf(t, x, "x0"), deliver()), classOf(setOf(t, x, "x1"), anyOf("p", "q")))
	// One Kind alone, or Ports alone, are not one action.
	askBuild(t, x, []api.Rule{ruleOf(1, "11", anyOf("p")), ruleOf(2, "00", all("p")), ruleOf(3, "01", all("q")), ruleOf(4, "10", anyOf("p"))},
		classOf(setOf(t, x, "00"), all("p")), classOf(setOf(t, x, "01"), all("q")), classOf(setOf(t, x, "1x"), anyOf("p")))
}

// Classes stand by Kind, then port by port, a beginning ahead of what it begins.
func TestBuildInOrder(t *testing.T) {
	x := newTable(t, 4)
	rising := risingActions()
	var l []api.Rule
	var want []api.Class
	for i, h := range headersOf(4)[:len(rising)] {
		l = append(l, ruleOf((i*7)%5, h, rising[i]))
		want = append(want, classOf(setOf(t, x, h), rising[i]))
	}
	want[0] = classOf(setOf(t, x, append(headersOf(4)[len(rising):], "0000")...), drop())
	askBuild(t, x, l, want...)
	for i := range l {
		l[i], l[(i*5)%len(l)] = l[(i*5)%len(l)], l[i]
	}
	askBuild(t, x, l, want...)
}

// risingActions are some that may be, in order.
func risingActions() []api.Action {
	return []api.Action{
		drop(), deliver(), all("P"), all("a"), all("a", "b"), all("a", "b", "c"), all("a", "c"), all("ab"), all("b"), all("b1"),
		anyOf("a"), anyOf("a", "b"), anyOf("a", "z"), anyOf("b"),
	}
}

// prefixes are so many rules, each of headers of its own that begin with its number.
func prefixes(n, width int, a func(i int) api.Action) []api.Rule {
	var l []api.Rule
	for i := range n {
		l = append(l, ruleOf(i, fmt.Sprintf("%012b", i)+strings.Repeat("x", width-12), a(i)))
	}
	return l
}

func ownPort(i int) api.Action { return all(fmt.Sprintf("p%04d", i)) }

func TestBuildOfMaxRules(t *testing.T) {
	x := newTable(t, api.MaxBits)
	one := build(t, x, prefixes(api.MaxRules, api.MaxBits, func(int) api.Action { return deliver() })...)
	same(t, "classes of one action", told(x, one...), told(x, classOf(1, deliver())))
	l := prefixes(api.MaxRules, api.MaxBits, ownPort)
	c := build(t, x, l...)
	same(t, "how many classes", len(c), api.MaxRules)
	for _, i := range []int{0, 1, 2047, 2048, api.MaxRules - 1} {
		same(t, "a class", told(x, c[i]), told(x, classOf(setOf(t, x, l[i].Match), ownPort(i))))
	}
	c = build(t, x, l[:api.MaxRules-1]...)
	same(t, "how many classes, with Drop", len(c), api.MaxRules)
	same(t, "Drop's class", told(x, c[0]), told(x, classOf(setOf(t, x, l[api.MaxRules-1].Match), drop())))
	askNoBuild(t, x, api.ErrMany, append(l, ruleOf(api.MaxRules, strings.Repeat("x", api.MaxBits), drop()))...)
}

// scattered are so many rules of one header each, with nothing in common but a beginning.
func scattered(n, width int, a func(i int) api.Action) []api.Rule {
	var l []api.Rule
	word := uint64(12345)
	for i := range n {
		match := fmt.Sprintf("%012b", i)
		for len(match) < width {
			word = word*6364136223846793005 + 1442695040888963407
			match += fmt.Sprintf("%032b", word>>32)
		}
		l = append(l, ruleOf(i%3, match[:width], a(i)))
	}
	return l
}

// What comes up on the way to all classes would not fit a table together; nor do answers take room for more than themselves.
func TestBuildOfMaxRulesOfOneHeaderEach(t *testing.T) {
	x := newTable(t, api.MaxBits)
	l := scattered(api.MaxRules, api.MaxBits, func(i int) api.Action { return []api.Action{deliver(), all("p")}[i%2] })
	c, e := classes.Build(x, l...)
	if e != api.OK || len(c) != 3 {
		t.Fatalf("Build: %d classes, %v", len(c), e)
	}
	size := x.Size()
	kept, _ := x.Keep(c[0].Where, c[1].Where, c[2].Where)
	same(t, "how many nodes were told beside the classes'", size-x.Size(), 0)
	for i, r := range l {
		for j, where := range kept {
			if has, e := x.Has(where, r.Match); has != (j == 1+i%2) || e != api.OK {
				t.Fatalf("class %d has %s: %v, %v", j, r.Match, has, e)
			}
		}
	}
	askAt(t, x, []api.Class{classOf(kept[0], c[0].Action), classOf(kept[1], c[1].Action), classOf(kept[2], c[2].Action)}, strings.Repeat("1", api.MaxBits), drop())
}

// P7.2

func TestCheck(t *testing.T) {
	x := newTable(t, 2)
	low, high, rest := setOf(t, x, "0x"), setOf(t, x, "11"), setOf(t, x, "10")
	for _, l := range [][]api.Class{
		{classOf(1, drop())}, {classOf(1, deliver())}, {classOf(1, all("p"))}, {classOf(1, anyOf("p", "q"))},
		{classOf(low, drop()), classOf(high, deliver()), classOf(rest, all("p"))},
		{classOf(rest, drop()), classOf(low, all("p")), classOf(high, all("p", "q"))},
		{classOf(high, all("a", "z")), classOf(rest, all("b")), classOf(low, anyOf("a"))},
	} {
		same(t, "Check of "+told(x, l...), classes.Check(x, l), api.OK)
	}
}

func TestCheckOfManyClasses(t *testing.T) {
	x := newTable(t, 8)
	var l []api.Class
	for i, h := range headersOf(8) {
		l = append(l, classOf(setOf(t, x, h), ownPort(i)))
	}
	same(t, "Check", classes.Check(x, l), api.OK)
	for i, h := range headersOf(8) {
		askAt(t, x, l, h, ownPort(i))
	}
	for _, i := range []int{0, 100, 255} {
		without := append(append([]api.Class{}, l[:i]...), l[i+1:]...)
		askNoClasses(t, x, without, api.ErrClasses)
		was := l[i].Where
		l[i].Where = setOf(t, x, headersOf(8)[i], headersOf(8)[(i+77)%256])
		askNoClasses(t, x, l, api.ErrClasses)
		l[i].Where = was
	}
}

// P7.3

func TestAt(t *testing.T) {
	x := newTable(t, 2)
	l := build(t, x, ruleOf(5, "1x", deliver()), ruleOf(6, "11", anyOf("p", "q")), ruleOf(3, "x1", all("p")))
	askAt(t, x, l, "00", drop())
	askAt(t, x, l, "01", all("p"))
	askAt(t, x, l, "10", deliver())
	askAt(t, x, l, "11", anyOf("p", "q"))
	one := []api.Class{classOf(1, all("p"))}
	for _, h := range headersOf(2) {
		askAt(t, x, one, h, all("p"))
	}
	wide := newTable(t, api.MaxBits)
	every := strings.Repeat("x", api.MaxBits)
	l = build(t, wide, ruleOf(5, every[1:]+"1", deliver()))
	askAt(t, wide, l, strings.Repeat("1", api.MaxBits), deliver())
	askAt(t, wide, l, strings.Repeat("1", api.MaxBits-1)+"0", drop())
}

// P7.4

func TestWithin(t *testing.T) {
	x := newTable(t, 2)
	l := build(t, x, ruleOf(5, "1x", deliver()), ruleOf(6, "11", anyOf("p")), ruleOf(3, "x1", all("p")))
	zero, one, two, three := setOf(t, x, "00"), setOf(t, x, "01"), setOf(t, x, "10"), setOf(t, x, "11")
	askWithin(t, x, l, 0)
	askWithin(t, x, l, 1, l...)
	askWithin(t, x, l, one, classOf(one, all("p")))
	askWithin(t, x, l, setOf(t, x, "1x"), classOf(two, deliver()), classOf(three, anyOf("p")))
	askWithin(t, x, l, setOf(t, x, "x0", "11"), classOf(zero, drop()), classOf(two, deliver()), classOf(three, anyOf("p")))
	// Sets that cut classes: one, several, all.
	l = build(t, x, ruleOf(5, "1x", deliver()))
	askWithin(t, x, l, zero, classOf(zero, drop()))
	askWithin(t, x, l, setOf(t, x, "x1"), classOf(one, drop()), classOf(three, deliver()))
	askWithin(t, x, l, setOf(t, x, "1x", "01"), classOf(one, drop()), classOf(setOf(t, x, "1x"), deliver()))
}

func TestChanges(t *testing.T) {
	x := newTable(t, 2)
	a := build(t, x, ruleOf(5, "1x", deliver()), ruleOf(3, "xx", all("p")))
	b := build(t, x, ruleOf(5, "x1", deliver()), ruleOf(3, "00", anyOf("p")))
	askChanges(t, x, a, b,
		api.Shift{Where: setOf(t, x, "10"), From: deliver(), To: drop()},
		api.Shift{Where: setOf(t, x, "01"), From: all("p"), To: deliver()},
		api.Shift{Where: setOf(t, x, "00"), From: all("p"), To: anyOf("p")})
	askChanges(t, x, b, a,
		api.Shift{Where: setOf(t, x, "10"), From: drop(), To: deliver()},
		api.Shift{Where: setOf(t, x, "01"), From: deliver(), To: all("p")},
		api.Shift{Where: setOf(t, x, "00"), From: anyOf("p"), To: all("p")})
	// By a's order first, then by b's.
	four := build(t, x, ruleOf(0, "00", all("a")), ruleOf(0, "01", all("b")), ruleOf(0, "10", all("c")), ruleOf(0, "11", all("d")))
	two := build(t, x, ruleOf(0, "x0", all("a")), ruleOf(0, "x1", anyOf("z")))
	askChanges(t, x, two, four,
		api.Shift{Where: setOf(t, x, "10"), From: all("a"), To: all("c")},
		api.Shift{Where: setOf(t, x, "01"), From: anyOf("z"), To: all("b")},
		api.Shift{Where: setOf(t, x, "11"), From: anyOf("z"), To: all("d")})
	askChanges(t, x, four, []api.Class{classOf(1, all("b"))},
		api.Shift{Where: setOf(t, x, "00"), From: all("a"), To: all("b")},
		api.Shift{Where: setOf(t, x, "10"), From: all("c"), To: all("b")},
		api.Shift{Where: setOf(t, x, "11"), From: all("d"), To: all("b")})
	askChanges(t, x, []api.Class{classOf(1, drop())}, []api.Class{classOf(1, deliver())}, api.Shift{Where: 1, From: drop(), To: deliver()})
}

func TestChangesOfManyClasses(t *testing.T) {
	x := newTable(t, api.MaxBits)
	a := build(t, x, prefixes(api.MaxRules, api.MaxBits, ownPort)...)
	turned := func(i int) api.Action { return ownPort(api.MaxRules - 1 - i) }
	b := build(t, x, prefixes(api.MaxRules-3, api.MaxBits, turned)...)
	l, e := classes.Changes(x, a, b)
	same(t, "Changes", e, api.OK)
	same(t, "how many changes", len(l), api.MaxRules)
	for i, s := range l {
		want := api.Shift{Where: a[i].Where, From: ownPort(i), To: turned(i)}
		if i >= api.MaxRules-3 {
			want.To = drop()
		}
		if i%500 == 0 || i > api.MaxRules-6 {
			same(t, "a change", toldShifts(x, s), toldShifts(x, want))
		}
	}
	askChanges(t, x, a, a)
}

// P7.5

func TestAhead(t *testing.T) {
	l := append([]api.Action{{Kind: math.MinInt, Ports: []string{"z"}}, {Kind: -1}, {}, {Ports: []string{""}}, {Ports: []string{"", ""}}}, risingActions()...)
	l = append(l, anyOf("c", ""), anyOf("c", "\x00"), anyOf("c", "b", "a"), anyOf("c", "b", "b"), anyOf("\xff"), api.Action{Kind: 5}, api.Action{Kind: 5, Ports: []string{"a"}}, api.Action{Kind: math.MaxInt})
	for i, a := range l {
		for j, b := range l {
			if got := classes.Ahead(a, b); got != (i < j) {
				t.Errorf("Ahead(%s, %s) = %v", toldAction(a), toldAction(b), got)
			}
		}
	}
	// Without Ports, be the list nil or empty, is one and the same.
	same(t, "Ahead of nil", classes.Ahead(drop(), api.Action{Kind: api.Drop, Ports: []string{}}), false)
	same(t, "Ahead of empty", classes.Ahead(api.Action{Kind: api.Drop, Ports: []string{}}, drop()), false)
}

// fill tells a table sets till nothing more fits.
func fill(t *testing.T, x *bdd.Table) {
	t.Helper()
	for _, r := range scattered(3*api.MaxRules, x.Bits(), ownPort) {
		if x.Size()+x.Bits() > x.Limit() {
			break
		}
		setOf(t, x, r.Match)
	}
	// A cube of one letter has one node.
	every := strings.Repeat("x", x.Bits())
	for i := range 2 * x.Bits() {
		x.Cube(every[:i/2] + "01"[i%2:i%2+1] + every[i/2+1:])
	}
	same(t, "Size", x.Size(), x.Limit())
}

// In a table without room all goes on whose answer it has told already; else nothing but ErrFull is told.
func TestFullTables(t *testing.T) {
	x := newTable(t, api.MaxBits)
	every := strings.Repeat("x", api.MaxBits)
	l := []api.Rule{ruleOf(5, "1"+every[1:], deliver()), ruleOf(3, every[1:]+"1", all("p")), ruleOf(2, "0"+every[1:], drop()), ruleOf(1, every[:2]+"0"+every[3:], anyOf("q"))}
	a := build(t, x, l...)
	b := build(t, x, l[1:]...)
	shifts, e := classes.Changes(x, a, b)
	same(t, "Changes", e, api.OK)
	half := setOf(t, x, every[:1]+"1"+every[2:])
	fill(t, x)
	askBuild(t, x, l, a...)
	askBuild(t, x, nil, classOf(1, drop()))
	askAt(t, x, a, strings.Repeat("1", api.MaxBits), deliver())
	askAt(t, x, b, strings.Repeat("1", api.MaxBits), all("p"))
	askWithin(t, x, a, 1, a...)
	askChanges(t, x, a, b, shifts...)
	askNoClasses(t, x, append([]api.Class{classOf(half, drop())}, a[1:]...), api.ErrClasses)
	askNoWithin(t, x, a, half, api.ErrFull)
	askNoBuild(t, x, api.ErrFull, append(l, ruleOf(9, strings.Repeat("110", api.MaxBits)[:api.MaxBits], drop()))...)
	same(t, "Size", x.Size(), api.MaxNodes)
}
