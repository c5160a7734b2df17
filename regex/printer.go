package regex

import "milestone/api"

// How tightly expressions bind, from the loosest on.
const (
	loose  = iota // alternatives
	middle        // a sequence
	tight         // all that needs no parentheses
)

func tightness(r api.Regex) int {
	switch {
	case r.Op == api.RAlt:
		return loose
	case r.Op == api.RSeq && len(r.Kids) > 0:
		return middle
	}
	return tight
}

// signOf is the word that stands behind the Kid of a kind; of others there is none.
func signOf(op api.RegexOp) string {
	switch op {
	case api.RStar:
		return "*"
	case api.RPlus:
		return "+"
	case api.ROpt:
		return "?"
	}
	return ""
}

// kindOf is the kind of which a text is the sign; 0: of none.
func kindOf(s string) api.RegexOp {
	for op := api.RStar; op <= api.ROpt; op++ {
		if signOf(op) == s {
			return op
		}
	}
	return 0
}

// wordsOf are the words of an expression that may be.
func wordsOf(r api.Regex) []string {
	switch r.Op {
	case api.RDevice:
		return []string{r.Name}
	case api.RClass:
		return []string{"$", r.Name}
	case api.RAny:
		return []string{"."}
	case api.RSeq:
		return sequenceWords(r.Kids)
	case api.RAlt:
		return alternativeWords(r.Kids)
	}
	return append(kidWords(r.Kids[0], tight), signOf(r.Op))
}

func sequenceWords(kids []api.Regex) []string {
	if len(kids) == 0 {
		return []string{"(", ")"}
	}
	var l []string
	for _, k := range kids {
		l = append(l, kidWords(k, middle)...)
	}
	return l
}

func alternativeWords(kids []api.Regex) []string {
	var l []string
	for i, k := range kids {
		if i > 0 {
			l = append(l, "|")
		}
		l = append(l, kidWords(k, loose)...)
	}
	return l
}

// kidWords are those of a Kid where nothing may stand that binds looser than at least, but in parentheses.
func kidWords(k api.Regex, least int) []string {
	l := wordsOf(k)
	if tightness(k) >= least {
		return l
	}
	return append(append([]string{"("}, l...), ")")
}
