package rules_test

import (
	"fmt"
	"strings"
	"testing"

	"milestone/api"
	"milestone/rules"
)

func same(t *testing.T, what string, got, want any) {
	t.Helper()
	if got != want {
		t.Errorf("%s = %v, want %v", what, got, want)
	}
}

func drop() api.Action { return api.Action{Kind: api.Drop} }

func deliver() api.Action { return api.Action{Kind: api.Deliver} }

func all(ports ...string) api.Action { return api.Action{Kind: api.All, Ports: ports} }

func anyOf(ports ...string) api.Action { return api.Action{Kind: api.Any, Ports: ports} }

// ruleOf is a rule of these parts.
func ruleOf(priority int, match string, a api.Action) api.Rule {
	return api.Rule{Priority: priority, Match: match, Action: a}
}

// ports are so many names that rise.
func ports(n int) []string {
	var l []string
	for i := range n {
		l = append(l, fmt.Sprintf("p%06d", i))
	}
	return l
}

// told are all fields of rules, as a text that can be compared.
func told(l []api.Rule) string {
	var b strings.Builder
	for _, r := range l {
		fmt.Fprintf(&b, "%d %q %d %q;", r.Priority, r.Match, r.Action.Kind, r.Action.Ports)
	}
	return b.String()
}

// askCheck asks Check.
func askCheck(t *testing.T, r api.Rule, width int, want api.Errno) {
	t.Helper()
	if e := rules.Check(r, width); e != want {
		t.Errorf("Check(%.80v, %d) = %v, want %v", r, width, e, want)
	}
}

// askLine asks for a rule's line.
func askLine(t *testing.T, r api.Rule, want string) {
	t.Helper()
	if s, e := rules.Line(r); s != want || e != api.OK {
		t.Errorf("Line(%.80v) = %q, %v, want %q", r, s, e, want)
	}
}

// askNoLine asks for an error, and that there is no line beside it.
func askNoLine(t *testing.T, r api.Rule, want api.Errno) {
	t.Helper()
	if s, e := rules.Line(r); s != "" || e != want {
		t.Errorf("Line(%.80v) = %q, %v, want %v", r, s, e, want)
	}
}

// askAction asks for an action's words.
func askAction(t *testing.T, a api.Action, want string) {
	t.Helper()
	if s, e := rules.Action(a); s != want || e != api.OK {
		t.Errorf("Action(%.80v) = %q, %v, want %q", a, s, e, want)
	}
}

// askNoAction asks for an error in all calls that are handed an action.
func askNoAction(t *testing.T, a api.Action) {
	t.Helper()
	if s, e := rules.Action(a); s != "" || e != api.ErrAction {
		t.Errorf("Action(%.80v) = %q, %v", a, s, e)
	}
	r := ruleOf(5, "10x", a)
	askCheck(t, r, 3, api.ErrAction)
	askNoLine(t, r, api.ErrAction)
	askNoPrint(t, []api.Rule{r}, 3, 0, api.ErrAction)
}

// askParse asks for a text's rules.
func askParse(t *testing.T, s string, width int, want ...api.Rule) {
	t.Helper()
	l, line, col, e := rules.Parse(s, width)
	if told(l) != told(want) || line != 0 || col != 0 || e != api.OK {
		t.Errorf("Parse(%.80q, %d) = %.200s at %d, %d: %v, want %.200s", s, width, told(l), line, col, e, told(want))
	}
}

// askFault asks for an error at its place, and that no rules are beside it.
func askFault(t *testing.T, s string, width, line, col int, want api.Errno) {
	t.Helper()
	l, gotLine, gotCol, e := rules.Parse(s, width)
	if len(l) != 0 || gotLine != line || gotCol != col || e != want {
		t.Errorf("Parse(%.80q, %d): %v at %d, %d beside %d rules, want %v at %d, %d", s, width, e, gotLine, gotCol, len(l), want, line, col)
	}
}

// askPrint asks for rules' text.
func askPrint(t *testing.T, l []api.Rule, width int, want string) {
	t.Helper()
	if s, at, e := rules.Print(l, width); s != want || at != 0 || e != api.OK {
		t.Errorf("Print(%.80s, %d) = %.200q, %d, %v, want %.200q", told(l), width, s, at, e, want)
	}
}

// askNoPrint asks for an error with a rule's number, and that there is no text beside it.
func askNoPrint(t *testing.T, l []api.Rule, width, number int, want api.Errno) {
	t.Helper()
	if s, at, e := rules.Print(l, width); s != "" || at != number || e != want {
		t.Errorf("Print(%.80s, %d) = %.80q, %d, %v, want %v with %d", told(l), width, s, at, e, want, number)
	}
}

// askOrder asks for the order of rules.
func askOrder(t *testing.T, l []api.Rule, want ...api.Rule) {
	t.Helper()
	if got := told(rules.Order(l)); got != told(want) {
		t.Errorf("Order(%s) = %s, want %s", told(l), got, told(want))
	}
}
