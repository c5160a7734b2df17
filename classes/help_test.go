package classes_test

import (
	"fmt"
	"slices"
	"strings"
	"testing"

	"milestone/api"
	"milestone/bdd"
	"milestone/classes"
)

func same(t *testing.T, what string, got, want any) {
	t.Helper()
	if got != want {
		t.Errorf("%s = %v, want %v", what, got, want)
	}
}

func drop() api.Action { return api.Action{Kind: api.Drop} }

func deliver() api.Action { return api.Action{Kind: api.Deliver} }

func all(ports ...string) api.Action { return api.Action{Kind: api.All, Ports: ports} }

func anyOf(ports ...string) api.Action { return api.Action{Kind: api.Any, Ports: ports} }

// ruleOf is a rule of these parts.
func ruleOf(priority int, match string, a api.Action) api.Rule {
	return api.Rule{Priority: priority, Match: match, Action: a}
}

// classOf is a class of these parts.
func classOf(where api.Ref, a api.Action) api.Class { return api.Class{Where: where, Action: a} }

// newTable is one of so many bits, with the Limit that all calls ask for.
func newTable(t *testing.T, width int) *bdd.Table {
	t.Helper()
	x, e := bdd.New(width, api.MaxNodes)
	if x == nil || e != api.OK {
		t.Fatalf("New(%d) = %v, %v", width, x, e)
	}
	return x
}

// setOf is the ref of all headers of some cubes.
func setOf(t *testing.T, x *bdd.Table, cubes ...string) api.Ref {
	t.Helper()
	set := api.Ref(0)
	for _, s := range cubes {
		one, e := x.Cube(s)
		if e != api.OK {
			t.Fatalf("Cube(%s): %v", s, e)
		}
		if set, e = x.Or(set, one); e != api.OK {
			t.Fatalf("Or: %v", e)
		}
	}
	return set
}

// toldAction is all fields of an action, as a text that can be compared.
func toldAction(a api.Action) string { return fmt.Sprintf("%d %q", a.Kind, a.Ports) }

// cubesOf are a ref's cubes, as a text.
func cubesOf(x *bdd.Table, r api.Ref) string {
	l, e := x.Cubes(r, 1000)
	if e != api.OK {
		return fmt.Sprintf("ref %d: %v", r, e)
	}
	return strings.Join(l, " ")
}

// told are classes with the cubes of their headers.
func told(x *bdd.Table, l ...api.Class) string {
	var b strings.Builder
	for _, c := range l {
		fmt.Fprintf(&b, "%s: %s; ", toldAction(c.Action), cubesOf(x, c.Where))
	}
	return b.String()
}

// toldShifts are shifts with the cubes of their headers.
func toldShifts(x *bdd.Table, l ...api.Shift) string {
	var b strings.Builder
	for _, c := range l {
		fmt.Fprintf(&b, "%s to %s: %s; ", toldAction(c.From), toldAction(c.To), cubesOf(x, c.Where))
	}
	return b.String()
}

// build asks for classes that are a partition.
func build(t *testing.T, x *bdd.Table, l ...api.Rule) []api.Class {
	t.Helper()
	c, e := classes.Build(x, l...)
	if e != api.OK {
		t.Fatalf("Build of %d rules: %v", len(l), e)
	}
	if e := classes.Check(x, c); e != api.OK {
		t.Errorf("Check of Build of %d rules: %v", len(l), e)
	}
	return c
}

// askBuild asks for the classes of rules, each given as one by its action and its headers.
func askBuild(t *testing.T, x *bdd.Table, l []api.Rule, want ...api.Class) []api.Class {
	t.Helper()
	c := build(t, x, l...)
	if !slices.EqualFunc(c, want, sameClass) {
		t.Errorf("Build(%v) = %.400s, want %.400s", l, told(x, c...), told(x, want...))
	}
	return c
}

func sameClass(a, b api.Class) bool {
	return a.Where == b.Where && toldAction(a.Action) == toldAction(b.Action)
}

// askNoBuild asks for an error, and that nothing is told beside it.
func askNoBuild(t *testing.T, x *bdd.Table, want api.Errno, l ...api.Rule) {
	t.Helper()
	if c, e := classes.Build(x, l...); len(c) != 0 || e != want {
		t.Errorf("Build of %d rules = %d classes, %v, want %v", len(l), len(c), e, want)
	}
}

// askNoClasses asks all calls for one error of classes, and that nothing is told beside it.
func askNoClasses(t *testing.T, x *bdd.Table, l []api.Class, want api.Errno) {
	t.Helper()
	if e := classes.Check(x, l); e != want {
		t.Errorf("Check(%.300s): %v, want %v", told(x, l...), e, want)
	}
	zeros := strings.Repeat("0", x.Bits())
	askNoAt(t, x, l, zeros, want)
	askNoAt(t, x, l, "no header", want)
	askNoWithin(t, x, l, 0, want)
	askNoWithin(t, x, l, 1, want)
	askNoChanges(t, x, l, l, want)
}

func askAt(t *testing.T, x *bdd.Table, l []api.Class, header string, want api.Action) {
	t.Helper()
	if a, e := classes.At(x, l, header); toldAction(a) != toldAction(want) || e != api.OK {
		t.Errorf("At(%.200s, %s) = %s, %v, want %s", told(x, l...), header, toldAction(a), e, toldAction(want))
	}
}

func askNoAt(t *testing.T, x *bdd.Table, l []api.Class, header string, want api.Errno) {
	t.Helper()
	if a, e := classes.At(x, l, header); a.Kind != 0 || len(a.Ports) != 0 || e != want {
		t.Errorf("At(%.300s, %.80q) = %v, %v, want %v", told(x, l...), header, a, e, want)
	}
}

func askWithin(t *testing.T, x *bdd.Table, l []api.Class, where api.Ref, want ...api.Class) {
	t.Helper()
	c, e := classes.Within(x, l, where)
	if !slices.EqualFunc(c, want, sameClass) || e != api.OK {
		t.Errorf("Within(%.200s, %s) = %.200s, %v, want %.200s", told(x, l...), cubesOf(x, where), told(x, c...), e, told(x, want...))
	}
}

func askNoWithin(t *testing.T, x *bdd.Table, l []api.Class, where api.Ref, want api.Errno) {
	t.Helper()
	if c, e := classes.Within(x, l, where); len(c) != 0 || e != want {
		t.Errorf("Within(%.300s, %d) = %d classes, %v, want %v", told(x, l...), where, len(c), e, want)
	}
}

func askChanges(t *testing.T, x *bdd.Table, a, b []api.Class, want ...api.Shift) {
	t.Helper()
	l, e := classes.Changes(x, a, b)
	sameShift := func(c, d api.Shift) bool {
		return c.Where == d.Where && toldAction(c.From) == toldAction(d.From) && toldAction(c.To) == toldAction(d.To)
	}
	if !slices.EqualFunc(l, want, sameShift) || e != api.OK {
		t.Errorf("Changes(%.200s, %.200s) = %.300s, %v, want %.300s", told(x, a...), told(x, b...), toldShifts(x, l...), e, toldShifts(x, want...))
	}
}

func askNoChanges(t *testing.T, x *bdd.Table, a, b []api.Class, want api.Errno) {
	t.Helper()
	if l, e := classes.Changes(x, a, b); len(l) != 0 || e != want {
		t.Errorf("Changes(%.300s, %.300s) = %d shifts, %v, want %v", told(x, a...), told(x, b...), len(l), e, want)
	}
}

// headersOf are all headers of so many bits.
func headersOf(width int) []string {
	var l []string
	for i := range 1 << width {
		l = append(l, fmt.Sprintf("%0*b", width, i))
	}
	return l
}

// doneByWords is what rules do with a header.
func doneByWords(l []api.Rule, header string) api.Action {
	var met *api.Rule
	for i, r := range l {
		if liesIn(header, r.Match) && (met == nil || r.Priority > met.Priority || r.Priority == met.Priority && r.Match < met.Match) {
			met = &l[i]
		}
	}
	if met == nil {
		return drop()
	}
	return met.Action
}

func liesIn(header, match string) bool {
	for i := range header {
		if match[i] != 'x' && match[i] != header[i] {
			return false
		}
	}
	return true
}

// aheadByWords tells whether an action stands ahead of another one.
func aheadByWords(a, b api.Action) bool {
	if a.Kind != b.Kind {
		return a.Kind < b.Kind
	}
	for i := range min(len(a.Ports), len(b.Ports)) {
		if a.Ports[i] != b.Ports[i] {
			return a.Ports[i] < b.Ports[i]
		}
	}
	return len(a.Ports) < len(b.Ports)
}
