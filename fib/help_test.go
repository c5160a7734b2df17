package fib_test

import (
	"fmt"
	"strings"
	"testing"

	"milestone/api"
	"milestone/fib"
)

func same(t *testing.T, what string, got, want any) {
	t.Helper()
	if got != want {
		t.Errorf("%s = %v, want %v", what, got, want)
	}
}

func drop() api.Action { return api.Action{Kind: api.Drop} }

func deliver() api.Action { return api.Action{Kind: api.Deliver} }

func all(ports ...string) api.Action { return api.Action{Kind: api.All, Ports: ports} }

func anyOf(ports ...string) api.Action { return api.Action{Kind: api.Any, Ports: ports} }

// ruleOf is a rule of these parts.
func ruleOf(priority int, match string, a api.Action) api.Rule {
	return api.Rule{Priority: priority, Match: match, Action: a}
}

func insert(priority int, match string, a api.Action) api.Change {
	return api.Change{Kind: api.Insert, Rule: ruleOf(priority, match, a)}
}

// remove is a Delete whose Rule has no action at all.
func remove(priority int, match string) api.Change {
	return api.Change{Kind: api.Delete, Rule: api.Rule{Priority: priority, Match: match}}
}

func modify(priority int, match string, a api.Action) api.Change {
	return api.Change{Kind: api.Modify, Rule: ruleOf(priority, match, a)}
}

// told are all fields of rules, as a text that can be compared.
func told(l ...api.Rule) string {
	var b strings.Builder
	for _, r := range l {
		fmt.Fprintf(&b, "%d %q %d %q;", r.Priority, r.Match, r.Action.Kind, r.Action.Ports)
	}
	return b.String()
}

// toldChanges are all fields of changes.
func toldChanges(l ...api.Change) string {
	var b strings.Builder
	for _, c := range l {
		fmt.Fprintf(&b, "%d %s", c.Kind, told(c.Rule))
	}
	return b.String()
}

// newTable is one of so many bits with these rules, put in one by one.
func newTable(t *testing.T, width int, l ...api.Rule) *fib.Table {
	t.Helper()
	x, e := fib.New(width)
	if x == nil || e != api.OK {
		t.Fatalf("New(%d) = %v, %v", width, x, e)
	}
	for _, r := range l {
		askDo(t, x, api.Change{Kind: api.Insert, Rule: r})
	}
	return x
}

// state is all that a table tells of its rules.
func state(x *fib.Table) string {
	s, e := x.Text()
	return fmt.Sprintf("%d bits, %d: %s %q %v", x.Width(), x.Len(), told(x.Rules()...), s, e)
}

// askRules asks for a table's rules, in order.
func askRules(t *testing.T, x *fib.Table, want ...api.Rule) {
	t.Helper()
	if l := x.Rules(); told(l...) != told(want...) || x.Len() != len(want) {
		t.Errorf("Rules = %.300s, %d of them, want %.300s", told(l...), x.Len(), told(want...))
	}
}

// askDo asks for changes that may be.
func askDo(t *testing.T, x *fib.Table, l ...api.Change) {
	t.Helper()
	if n, e := x.Do(l...); n != 0 || e != api.OK {
		t.Fatalf("Do(%.300s) = %d, %v", toldChanges(l...), n, e)
	}
}

// askNoDo asks Do and Undo for the change that may not be, and that nothing has changed.
func askNoDo(t *testing.T, x *fib.Table, number int, want api.Errno, l ...api.Change) {
	t.Helper()
	before := state(x)
	if n, e := x.Do(l...); n != number || e != want {
		t.Errorf("Do(%.300s) = %d, %v, want %d, %v", toldChanges(l...), n, e, number, want)
	}
	if undo, n, e := x.Undo(l...); len(undo) != 0 || n != number || e != want {
		t.Errorf("Undo(%.300s) = %.80s, %d, %v, want %d, %v", toldChanges(l...), toldChanges(undo...), n, e, number, want)
	}
	if after := state(x); after != before {
		t.Errorf("behind %.300s: %.300s, want %.300s", toldChanges(l...), after, before)
	}
}

// askUndo asks for the changes that undo others, and that nothing has changed.
func askUndo(t *testing.T, x *fib.Table, l []api.Change, want ...api.Change) []api.Change {
	t.Helper()
	before := state(x)
	undo, n, e := x.Undo(l...)
	if toldChanges(undo...) != toldChanges(want...) || n != 0 || e != api.OK {
		t.Errorf("Undo(%.300s) = %.300s, %d, %v, want %.300s", toldChanges(l...), toldChanges(undo...), n, e, toldChanges(want...))
	}
	if after := state(x); after != before {
		t.Errorf("behind Undo(%.300s): %.300s, want %.300s", toldChanges(l...), after, before)
	}
	return undo
}

// askMeets asks which rule a header meets, and what is done with it.
func askMeets(t *testing.T, x *fib.Table, header string, want api.Rule) {
	t.Helper()
	if r, met, e := x.Meets(header); told(r) != told(want) || !met || e != api.OK {
		t.Errorf("Meets(%s) = %s, %v, %v, want %s", header, told(r), met, e, told(want))
	}
	askLookup(t, x, header, want.Action)
}

// askMeetsNone asks for a header that meets no rule.
func askMeetsNone(t *testing.T, x *fib.Table, header string) {
	t.Helper()
	if r, met, e := x.Meets(header); told(r) != told(api.Rule{}) || met || e != api.OK {
		t.Errorf("Meets(%s) = %s, %v, %v, want none", header, told(r), met, e)
	}
	askLookup(t, x, header, drop())
}

func askLookup(t *testing.T, x *fib.Table, header string, want api.Action) {
	t.Helper()
	a, e := x.Lookup(header)
	if told(api.Rule{Action: a}) != told(api.Rule{Action: want}) || e != api.OK {
		t.Errorf("Lookup(%s) = %v, %v, want %v", header, a, e, want)
	}
}

// askNoHeader asks for an error, and that all else is zero beside it.
func askNoHeader(t *testing.T, x *fib.Table, header string, want api.Errno) {
	t.Helper()
	if r, met, e := x.Meets(header); told(r) != told(api.Rule{}) || met || e != want {
		t.Errorf("Meets(%.80q) = %s, %v, %v, want %v", header, told(r), met, e, want)
	}
	if a, e := x.Lookup(header); a.Kind != 0 || len(a.Ports) != 0 || e != want {
		t.Errorf("Lookup(%.80q) = %v, %v, want %v", header, a, e, want)
	}
}

func askDead(t *testing.T, x *fib.Table, want ...api.Rule) {
	t.Helper()
	if l, e := x.Dead(); told(l...) != told(want...) || e != api.OK {
		t.Errorf("Dead = %.300s, %v, want %.300s", told(l...), e, told(want...))
	}
}

func askText(t *testing.T, x *fib.Table, want string) {
	t.Helper()
	if s, e := x.Text(); s != want || e != api.OK {
		t.Errorf("Text = %.300q, %v, want %.300q", s, e, want)
	}
}

// askLoad asks for a text that may be loaded.
func askLoad(t *testing.T, x *fib.Table, s string) {
	t.Helper()
	if line, col, e := x.Load(s); line != 0 || col != 0 || e != api.OK {
		t.Fatalf("Load(%.300q) = %d, %d, %v", s, line, col, e)
	}
}

// askNoLoad asks for an error at its place, and that nothing has changed.
func askNoLoad(t *testing.T, x *fib.Table, s string, line, col int, want api.Errno) {
	t.Helper()
	before := state(x)
	if gotLine, gotCol, e := x.Load(s); gotLine != line || gotCol != col || e != want {
		t.Errorf("Load(%.300q) = %d, %d, %v, want %d, %d, %v", s, gotLine, gotCol, e, line, col, want)
	}
	if after := state(x); after != before {
		t.Errorf("behind Load(%.300q): %.300s, want %.300s", s, after, before)
	}
}

// manyRules are so many of one bit, in order.
func manyRules(n int) []api.Rule {
	var l []api.Rule
	for i := range n {
		l = append(l, ruleOf(10*(n-i), "x", drop()))
	}
	return l
}

// inserts are the changes that put rules in.
func inserts(l ...api.Rule) []api.Change {
	var out []api.Change
	for _, r := range l {
		out = append(out, api.Change{Kind: api.Insert, Rule: r})
	}
	return out
}
