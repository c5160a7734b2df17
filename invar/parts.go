package invar

import (
	"milestone/api"
	"milestone/cube"
	"milestone/topo"
	"milestone/words"
)

// fieldsMayBe tells whether all fields but Path may be.
func fieldsMayBe(v api.Invariant) bool {
	return words.Name(v.Name) && cube.Check(v.Packets) == api.OK && ingressMayBe(v.Ingress) &&
		0 <= v.Hops && v.Hops <= api.MaxHops && signOf(v.Compare) != "" && 0 <= v.Count && v.Count <= api.MaxCount
}

func ingressMayBe(l []string) bool {
	if len(l) < 1 || len(l) > api.MaxDevices {
		return false
	}
	for i, name := range l {
		if !words.Name(name) || i > 0 && l[i-1] >= name {
			return false
		}
	}
	return true
}

// hasAll tells whether all names are those of a topology's devices.
func hasAll(t api.Topo, l []string) bool {
	for _, name := range l {
		if _, there := topo.Find(t, name); !there {
			return false
		}
	}
	return true
}

// signOf is the word of a compare; of what is no compare there is none.
func signOf(compare int) string {
	switch compare {
	case api.Equal:
		return "=="
	case api.Most:
		return "<="
	case api.Least:
		return ">="
	}
	return ""
}

// compareOf is the compare of which a text is the word; 0: of none.
func compareOf(s string) int {
	for c := api.Equal; c <= api.Least; c++ {
		if signOf(c) == s {
			return c
		}
	}
	return 0
}

// names are how often each Name has come.
type names map[string]int

// add takes down a Name, and tells whether it has come for the first time.
func (l names) add(name string) bool {
	l[name]++
	return l[name] == 1
}
