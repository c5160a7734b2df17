package classes_test

import (
	"math"
	"slices"
	"strings"
	"testing"
	"unsafe"

	"milestone/api"
	"milestone/bdd"
	"milestone/classes"
)

// wrongActions are some of each kind that may not be.
func wrongActions() []api.Action {
	return []api.Action{
		{}, {Kind: 5}, {Kind: -1}, {Kind: math.MaxInt, Ports: []string{"p"}},
		{Kind: api.Drop, Ports: []string{"p"}}, {Kind: api.Deliver, Ports: []string{"p", "q"}},
		all(), anyOf(), all("q", "p"), anyOf("p", "p"), all("1p"), anyOf(""), all("\xff"), anyOf(make([]string, api.MaxPorts+1)...),
	}
}

// Rule 3, and the Limit of all calls: ahead of whatever else is wrong.

func askNoTable(t *testing.T, x *bdd.Table, want api.Errno) {
	t.Helper()
	for _, l := range [][]api.Rule{nil, {ruleOf(5, "1", drop())}, {ruleOf(-1, "", all())}, {ruleOf(5, "1", drop()), ruleOf(5, "1", drop())}, make([]api.Rule, api.MaxRules+1)} {
		askNoBuild(t, x, want, l...)
	}
	for _, l := range [][]api.Class{nil, {classOf(1, drop())}, {classOf(7, drop())}, {classOf(0, all())}} {
		askNoClasses(t, x, l, want)
		for _, r := range []api.Ref{-1, 2, 99} {
			askNoWithin(t, x, l, r, want)
		}
	}
}

func TestTablesThatNoCallMade(t *testing.T) {
	var none *bdd.Table
	var zero bdd.Table
	copied := *newTable(t, 1)
	for _, x := range []*bdd.Table{none, &zero, new(bdd.Table), {}, &copied} {
		askNoTable(t, x, api.ErrNil)
	}
}

func TestTablesOfAnotherLimit(t *testing.T) {
	for _, limit := range []int{0, 1, 9, api.MaxNodes / 2, api.MaxNodes - 1} {
		for _, width := range []int{1, 2, api.MaxBits} {
			x, e := bdd.New(width, limit)
			same(t, "New's error", e, api.OK)
			askNoTable(t, x, api.ErrArg)
			same(t, "Size", x.Size(), 0)
		}
	}
}

// P7.1

// askWrongRule asks for the error of a rule, alone and among others that may be.
func askWrongRule(t *testing.T, x *bdd.Table, want api.Errno, r api.Rule) {
	t.Helper()
	good := []api.Rule{ruleOf(5, "1x", all("p")), ruleOf(9, "11", drop())}
	askNoBuild(t, x, want, r)
	askNoBuild(t, x, want, append([]api.Rule{r}, good...)...)
	askNoBuild(t, x, want, good[0], r, good[1])
	askNoBuild(t, x, want, good[0], good[1], r)
	// Ahead of two alike keys, which may stand in front of it.
	askNoBuild(t, x, want, good[0], good[0], r)
	askNoBuild(t, x, want, r, r)
}

func TestRulesThatMayNotBe(t *testing.T) {
	x := newTable(t, 2)
	for _, p := range []int{-1, api.MaxPrio + 1, math.MaxInt, math.MinInt, 1<<32 + 5} {
		askWrongRule(t, x, api.ErrArg, ruleOf(p, "1x", drop()))
		askWrongRule(t, x, api.ErrArg, ruleOf(p, "2", all()))
	}
	for _, c := range []string{"", "2", "1X", "1 ", "\xff", "1x2", strings.Repeat("x", api.MaxBits+1)} {
		askWrongRule(t, x, api.ErrCube, ruleOf(5, c, drop()))
		askWrongRule(t, x, api.ErrCube, ruleOf(5, c, all()))
	}
	for _, c := range []string{"1", "x", "1xx", strings.Repeat("1", api.MaxBits)} {
		askWrongRule(t, x, api.ErrWidth, ruleOf(5, c, drop()))
		askWrongRule(t, x, api.ErrWidth, ruleOf(5, c, anyOf()))
	}
	for _, a := range wrongActions() {
		askWrongRule(t, x, api.ErrAction, ruleOf(5, "1x", a))
		askWrongRule(t, x, api.ErrAction, ruleOf(0, "xx", a))
	}
	same(t, "Size", x.Size(), 0)
}

func TestTheFirstRuleThatMayNotBe(t *testing.T) {
	x := newTable(t, 2)
	arg, cube, width, action := ruleOf(-1, "1x", drop()), ruleOf(5, "12", drop()), ruleOf(5, "1", drop()), ruleOf(5, "1x", all())
	good := ruleOf(7, "xx", drop())
	askNoBuild(t, x, api.ErrAction, good, action, arg, cube, width)
	askNoBuild(t, x, api.ErrWidth, width, good, cube, arg)
	askNoBuild(t, x, api.ErrCube, good, cube, arg)
	askNoBuild(t, x, api.ErrArg, arg, cube)
}

// A rule's width is the table's, not that of the others.
func TestTheWidthOfRules(t *testing.T) {
	askNoBuild(t, newTable(t, 1), api.ErrWidth, ruleOf(5, "1x", drop()), ruleOf(6, "xx", drop()))
	askNoBuild(t, newTable(t, api.MaxBits), api.ErrWidth, ruleOf(5, strings.Repeat("x", api.MaxBits-1), drop()))
}

func TestTwoRulesOfOneKey(t *testing.T) {
	x := newTable(t, 2)
	one, other := ruleOf(5, "1x", drop()), ruleOf(5, "1x", all("p"))
	between := []api.Rule{ruleOf(5, "xx", drop()), ruleOf(6, "1x", drop()), ruleOf(4, "1x", drop()), ruleOf(5, "x1", drop())}
	askNoBuild(t, x, api.ErrSame, one, other)
	askNoBuild(t, x, api.ErrSame, one, one)
	askNoBuild(t, x, api.ErrSame, slices.Concat([]api.Rule{one}, between, []api.Rule{other})...)
	askNoBuild(t, x, api.ErrSame, slices.Concat(between, []api.Rule{other, one})...)
	// Also where no header meets them.
	askNoBuild(t, x, api.ErrSame, ruleOf(9, "xx", deliver()), one, other)
	// One Priority, or one Match, is no key.
	build(t, x, append(between, one)...)
}

func TestWhichErrorOfBuildIsFirst(t *testing.T) {
	x := newTable(t, 12)
	l := prefixes(api.MaxRules, 12, ownPort)
	askNoBuild(t, x, api.ErrMany, append(l, l[0])...)
	askNoBuild(t, x, api.ErrMany, append(l, ruleOf(-1, "", all()))...)
	askNoBuild(t, x, api.ErrMany, append([]api.Rule{ruleOf(-1, "", all())}, l...)...)
	askNoBuild(t, x, api.ErrMany, make([]api.Rule, 2*api.MaxRules)...)
	l[api.MaxRules-1] = ruleOf(0, "1", drop())
	l[7] = l[8]
	askNoBuild(t, x, api.ErrWidth, l...)
	l[api.MaxRules-1] = l[7]
	askNoBuild(t, x, api.ErrSame, l...)
}

// P7.2

// untold are refs that a table did not tell, or not any more.
func untold(t *testing.T, x *bdd.Table) []api.Ref {
	t.Helper()
	old := setOf(t, x, "10", "01")
	if _, e := x.Keep(); e != api.OK {
		t.Fatal(e)
	}
	return []api.Ref{old, -1, 1 << 30, math.MaxInt, math.MinInt, old + 1000}
}

func TestRefsThatNoCallTold(t *testing.T) {
	x := newTable(t, 2)
	l := untold(t, x)
	low, high := setOf(t, x, "0x"), setOf(t, x, "1x")
	for _, r := range l {
		for _, c := range [][]api.Class{
			{classOf(r, drop())},
			{classOf(1, drop()), classOf(r, deliver())},
			{classOf(low, drop()), classOf(r, deliver())},
			{classOf(r, drop()), classOf(high, deliver())},
			// Ahead of all that is no partition, also where that stands in front.
			{classOf(0, drop()), classOf(r, deliver())},
			{classOf(low, deliver()), classOf(low, drop()), classOf(r, all("p"))},
			{classOf(low, all()), classOf(r, api.Action{})},
			{classOf(low, drop()), classOf(low, deliver()), classOf(high, all("p")), classOf(r, all("p"))},
		} {
			askNoClasses(t, x, c, api.ErrRef)
		}
	}
}

func TestClassesThatAreNoPartition(t *testing.T) {
	x := newTable(t, 2)
	zero, one, low, high := setOf(t, x, "00"), setOf(t, x, "01"), setOf(t, x, "0x"), setOf(t, x, "1x")
	for _, l := range [][]api.Class{
		nil, {},
		// Empty ones.
		{classOf(0, drop())}, {classOf(0, drop()), classOf(1, deliver())}, {classOf(1, drop()), classOf(0, deliver())},
		{classOf(low, drop()), classOf(0, deliver()), classOf(high, all("p"))},
		// Not all together.
		{classOf(low, drop())}, {classOf(zero, drop()), classOf(high, deliver())}, {classOf(zero, drop()), classOf(one, deliver())},
		// Such as meet.
		{classOf(1, drop()), classOf(1, deliver())}, {classOf(low, drop()), classOf(1, deliver())}, {classOf(1, drop()), classOf(one, deliver())},
		{classOf(low, drop()), classOf(high, deliver()), classOf(zero, all("p"))},
		{classOf(setOf(t, x, "0x", "11"), drop()), classOf(high, deliver())},
		{classOf(zero, drop()), classOf(high, deliver()), classOf(low, all("p"))},
		// Such as do not rise.
		{classOf(low, deliver()), classOf(high, drop())}, {classOf(low, drop()), classOf(high, drop())},
		{classOf(low, all("p", "q")), classOf(high, all("p"))}, {classOf(low, all("q")), classOf(high, all("p"))},
		{classOf(low, anyOf("p")), classOf(high, all("p"))}, {classOf(low, all("p")), classOf(high, all("p"))},
		{classOf(zero, all("p")), classOf(one, all("r")), classOf(high, all("q"))},
	} {
		askNoClasses(t, x, l, api.ErrClasses)
	}
}

func TestClassesWithActionsThatMayNotBe(t *testing.T) {
	x := newTable(t, 2)
	low, high := setOf(t, x, "0x"), setOf(t, x, "1x")
	for _, a := range wrongActions() {
		askNoClasses(t, x, []api.Class{classOf(1, a)}, api.ErrClasses)
		askNoClasses(t, x, []api.Class{classOf(low, a), classOf(high, anyOf("z"))}, api.ErrClasses)
		askNoClasses(t, x, []api.Class{classOf(low, drop()), classOf(high, a)}, api.ErrClasses)
	}
}

// P7.3

func TestTextsThatAreNoHeaders(t *testing.T) {
	x := newTable(t, 2)
	for _, l := range [][]api.Class{build(t, x), build(t, x, ruleOf(5, "1x", deliver()), ruleOf(4, "x1", all("p")))} {
		for _, s := range []string{"", "0", "1", "000", "1111", "x", "1x", "x1", "xx", "12", "2", "1 ", " 1", "1\n", "1X", "\xff\xff", "é", strings.Repeat("0", api.MaxBits), strings.Repeat("0", api.MaxBits+1)} {
			askNoAt(t, x, l, s, api.ErrText)
		}
		for b := range 256 {
			if b != '0' && b != '1' {
				askNoAt(t, x, l, "1"+string([]byte{byte(b)}), api.ErrText)
				askNoAt(t, x, l, string([]byte{byte(b)})+"0", api.ErrText)
			}
		}
		// Classes are asked ahead of the header.
		askNoAt(t, x, l[1:], "2", api.ErrClasses)
		askNoAt(t, x, append(l[:len(l):len(l)], classOf(-1, drop())), "2", api.ErrRef)
	}
}

// P7.4

func TestWithinOfWhatNoCallTold(t *testing.T) {
	x := newTable(t, 2)
	refs := untold(t, x)
	for _, l := range [][]api.Class{nil, build(t, x), build(t, x, ruleOf(5, "1x", deliver())), {classOf(0, drop())}, {classOf(1, all())}, {classOf(-1, drop())}} {
		for _, r := range refs {
			askNoWithin(t, x, l, r, api.ErrRef)
		}
	}
	// With a set that was told it is the classes' error.
	set := setOf(t, x, "11")
	askNoWithin(t, x, nil, set, api.ErrClasses)
	askNoWithin(t, x, []api.Class{classOf(set, drop())}, set, api.ErrClasses)
	askNoWithin(t, x, []api.Class{classOf(-1, drop())}, set, api.ErrRef)
}

func TestChangesOfWhatIsNoPartition(t *testing.T) {
	x := newTable(t, 2)
	good := build(t, x, ruleOf(5, "1x", deliver()))
	parts, refs := good[:1], []api.Class{good[0], classOf(-1, deliver())}
	askNoChanges(t, x, parts, good, api.ErrClasses)
	askNoChanges(t, x, good, parts, api.ErrClasses)
	askNoChanges(t, x, nil, good, api.ErrClasses)
	askNoChanges(t, x, good, nil, api.ErrClasses)
	askNoChanges(t, x, refs, good, api.ErrRef)
	askNoChanges(t, x, good, refs, api.ErrRef)
	// Of a first, then of b.
	askNoChanges(t, x, parts, refs, api.ErrClasses)
	askNoChanges(t, x, refs, parts, api.ErrRef)
}

// Refs are the table's own: of another one they are what that one told.
func TestClassesOfAnotherTable(t *testing.T) {
	x, other := newTable(t, 2), newTable(t, 2)
	l := build(t, x, ruleOf(5, "1x", deliver()))
	askNoClasses(t, other, l, api.ErrRef)
	build(t, other, ruleOf(5, "11", all("p")), ruleOf(4, "00", all("q")))
	askNoClasses(t, other, l, api.ErrClasses)
	same(t, "Check", classes.Check(x, l), api.OK)
}

// After an error all goes on as if it had not been.
func TestGoingOnBehindErrors(t *testing.T) {
	x := newTable(t, 2)
	l := build(t, x, ruleOf(5, "1x", deliver()))
	before := told(x, l...)
	askNoBuild(t, x, api.ErrSame, ruleOf(5, "11", drop()), ruleOf(5, "11", drop()))
	askNoClasses(t, x, l[1:], api.ErrClasses)
	askNoWithin(t, x, l, -1, api.ErrRef)
	askNoChanges(t, x, l, nil, api.ErrClasses)
	same(t, "the classes", told(x, l...), before)
	askBuild(t, x, []api.Rule{ruleOf(5, "1x", deliver())}, l...)
}

// Rule 4: nothing that is handed in is changed, also behind the ends of lists, nor kept.

func TestNothingIsChanged(t *testing.T) {
	x := newTable(t, 2)
	names := []string{"p", "q", "r", "behind"}
	whole := []api.Rule{ruleOf(1, "0x", all(names[:3]...)), ruleOf(5, "x1", anyOf(names[1:2]...)), ruleOf(5, "10", all(names[:2]...)), ruleOf(9, "behind", drop())}
	before := slices.Clone(whole)
	l := append(build(t, x, whole[:3]...), classOf(-7, anyOf(names[3:]...)))
	toldBefore := told(x, l...)
	given := l[:len(l)-1]
	classes.Build(x, whole...)
	classes.Check(x, given)
	classes.At(x, given, "11")
	classes.Within(x, given, setOf(t, x, "x1"))
	classes.Changes(x, given, build(t, x))
	classes.Changes(x, build(t, x), given)
	for i, r := range whole {
		same(t, "a rule", toldAction(r.Action)+r.Match, toldAction(before[i].Action)+before[i].Match)
		same(t, "a Priority", r.Priority, before[i].Priority)
	}
	same(t, "the classes", told(x, l...), toldBefore)
	same(t, "the ports", strings.Join(names, " "), "p q r behind")
	turned := []string{"q", "p", "p"}
	askNoBuild(t, x, api.ErrAction, ruleOf(1, "xx", all(turned...)))
	askNoClasses(t, x, []api.Class{classOf(1, all(turned...))}, api.ErrClasses)
	same(t, "ports that do not rise", strings.Join(turned, " "), "q p p")
}

// spoil writes over all that a list of classes has, and makes it grow.
func spoil(l []api.Class) {
	for i := range l {
		spoilPorts(l[i].Action.Ports)
		_ = append(l[i].Action.Ports, "more")
	}
	_ = append(l, classOf(-1, drop()))
	clear(l)
}

func spoilPorts(l []string) {
	for i := range l {
		l[i] = "spoilt"
	}
}

func TestNewMemoryOfBuild(t *testing.T) {
	x := newTable(t, 2)
	names := []string{"p", "q"}
	l := []api.Rule{ruleOf(1, "0x", all(names...)), ruleOf(5, "x1", anyOf(names...)), ruleOf(5, "10", all(names[:1]...)), ruleOf(6, "00", all(names...))}
	first, second := build(t, x, l...), build(t, x, l...)
	want := told(x, first...)
	spoil(second)
	same(t, "another answer", told(x, first...), want)
	same(t, "what was handed in", strings.Join(names, " "), "p q")
	// One list of an answer shares nothing with the others of it.
	third := build(t, x, l...)
	for i := range third {
		rest := told(x, third[i+1:]...)
		spoilPorts(third[i].Action.Ports)
		same(t, "the rest of the answer", told(x, third[i+1:]...), rest)
	}
	spoilPorts(names)
	clear(l)
	same(t, "what is told", told(x, first...), want)
}

func TestNewMemoryOfTheOthers(t *testing.T) {
	x := newTable(t, 2)
	l := build(t, x, ruleOf(1, "0x", all("p", "q")), ruleOf(5, "x1", anyOf("p", "q")))
	other := []api.Class{classOf(1, all("r", "s"))}
	want := told(x, l...)
	a, _ := classes.At(x, l, "11")
	spoilPorts(a.Ports)
	parts, _ := classes.Within(x, l, 1)
	same(t, "Within of all", told(x, parts...), want)
	spoil(parts)
	shifts, _ := classes.Changes(x, l, other)
	back, _ := classes.Changes(x, other, l)
	toldBack := toldShifts(x, back...)
	same(t, "how many shifts", len(shifts), 3)
	for i, s := range shifts {
		rest := toldShifts(x, shifts[i+1:]...)
		spoilPorts(s.From.Ports)
		spoilPorts(s.To.Ports)
		same(t, "the rest of the answer", toldShifts(x, shifts[i+1:]...), rest)
	}
	same(t, "another answer", toldShifts(x, back...), toldBack)
	same(t, "the classes", told(x, l...), want)
	same(t, "the other ones", told(x, other...), told(x, classOf(1, all("r", "s"))))
	askAt(t, x, l, "11", anyOf("p", "q"))
}

// Ports' texts, too, are new memory.
func TestTextsAreNewMemory(t *testing.T) {
	x := newTable(t, 1)
	given := ruleOf(5, "x", all(strings.Clone("port")))
	built := build(t, x, given)
	at, _ := classes.At(x, built, "1")
	parts, _ := classes.Within(x, built, 1)
	shifts, _ := classes.Changes(x, built, build(t, x))
	back, _ := classes.Changes(x, build(t, x), built)
	l := []api.Action{given.Action, built[0].Action, at, parts[0].Action, shifts[0].From, back[0].To}
	for i, a := range l {
		same(t, "the action", toldAction(a), toldAction(given.Action))
		for _, b := range l[:i] {
			same(t, "one port for two", unsafe.StringData(a.Ports[0]) == unsafe.StringData(b.Ports[0]), false)
		}
	}
}
