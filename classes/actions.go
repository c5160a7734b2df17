package classes

import (
	"cmp"
	"slices"
	"strings"

	"milestone/api"
	"milestone/rules"
)

// compare is below 0, if the first action stands ahead; 0, if they are alike.
func compare(a, b api.Action) int {
	return cmp.Or(cmp.Compare(a.Kind, b.Kind), slices.Compare(a.Ports, b.Ports))
}

// copyOf is an action that shares no memory with another one.
func copyOf(a api.Action) api.Action {
	a.Ports = slices.Clone(a.Ports)
	for i, p := range a.Ports {
		a.Ports[i] = strings.Clone(p)
	}
	return a
}

// actionsRise tells whether each class has an action that may be, ahead of the next one's.
func actionsRise(l []api.Class) bool {
	for i, c := range l {
		if _, e := rules.Action(c.Action); e != api.OK {
			return false
		}
		if i > 0 && !Ahead(l[i-1].Action, c.Action) {
			return false
		}
	}
	return true
}

// inOrder are rules that may stand in one table, in its order.
func inOrder(l []api.Rule, width int) ([]api.Rule, api.Errno) {
	if len(l) > api.MaxRules {
		return nil, api.ErrMany
	}
	for _, r := range l {
		if e := rules.Check(r, width); e != api.OK {
			return nil, e
		}
	}
	ordered := rules.Order(l)
	for i := 1; i < len(ordered); i++ {
		// Of two neighbours neither of which stands ahead the keys are alike.
		if !rules.Ahead(ordered[i-1], ordered[i]) {
			return nil, api.ErrSame
		}
	}
	return ordered, api.OK
}
