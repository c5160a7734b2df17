package rules

import (
	"cmp"
	"slices"
	"strconv"
	"strings"

	"milestone/api"
	"milestone/words"
)

func isWidth(n int) bool { return 1 <= n && n <= api.MaxBits }

// portsOf is how many ports an action of a kind has, at least and at most. Of what is no kind there are none that fit.
func portsOf(k api.ActionKind) (least, most int) {
	switch k {
	case api.Drop:
		fallthrough
	case api.Deliver:
		return 0, 0
	case api.All:
		fallthrough
	case api.Any:
		return 1, api.MaxPorts
	}
	return 1, 0
}

func actionMayBe(a api.Action) bool {
	least, most := portsOf(a.Kind)
	if len(a.Ports) < least || len(a.Ports) > most {
		return false
	}
	for i, p := range a.Ports {
		if !words.Name(p) || i > 0 && a.Ports[i-1] >= p {
			return false
		}
	}
	return true
}

// kindWord is an action's first word; of what is no kind there is none.
func kindWord(k api.ActionKind) string {
	switch k {
	case api.Drop:
		return "drop"
	case api.Deliver:
		return "deliver"
	case api.All:
		return "all"
	case api.Any:
		return "any"
	}
	return ""
}

// kindOf is the kind of which a text is the first word; 0: of none.
func kindOf(s string) api.ActionKind {
	for k := api.Drop; k <= api.Any; k++ {
		if kindWord(k) == s {
			return k
		}
	}
	return 0
}

// actionWords are those of an action that may be.
func actionWords(a api.Action) []string {
	l := []string{kindWord(a.Kind)}
	if len(a.Ports) == 0 {
		return l
	}
	for i, p := range a.Ports {
		mark := ","
		if i == 0 {
			mark = "("
		}
		l = append(l, mark, p)
	}
	return append(l, ")")
}

// ruleWords are those of a rule that may be.
func ruleWords(r api.Rule) []string {
	return append([]string{"rule", strconv.Itoa(r.Priority), r.Match}, actionWords(r.Action)...)
}

// text is the lines of rules that may be.
func text(l []api.Rule) string {
	var b strings.Builder
	for _, r := range l {
		// Words of a rule that may be are never refused.
		line, _ := words.Say(ruleWords(r)...)
		b.WriteString(line)
		b.WriteByte('\n')
	}
	return b.String()
}

// key is what no two rules of a table have alike.
type key struct {
	priority int
	match    string
}

// keys are how often each key has come.
type keys map[key]int

// add takes down a rule's key, and tells whether it has come for the first time.
func (k keys) add(r api.Rule) bool {
	own := key{r.Priority, r.Match}
	k[own]++
	return k[own] == 1
}

// compare is below 0, if the first one stands ahead; 0, if their keys are alike.
func compare(a, b api.Rule) int {
	return cmp.Or(cmp.Compare(b.Priority, a.Priority), cmp.Compare(a.Match, b.Match))
}

// copyOf is a rule that shares no memory with another one.
func copyOf(r api.Rule) api.Rule {
	r.Match = strings.Clone(r.Match)
	r.Action.Ports = slices.Clone(r.Action.Ports)
	for i, p := range r.Action.Ports {
		r.Action.Ports[i] = strings.Clone(p)
	}
	return r
}
