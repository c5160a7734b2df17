package tasks

import (
	"cmp"
	"maps"
	"slices"

	"milestone/api"
)

// spots are gathered, each once.
type spots map[api.Spot]struct{}

func (l spots) add(s api.Spot) { l[s] = struct{}{} }

func (l spots) inOrder() []api.Spot { return slices.SortedFunc(maps.Keys(l), order) }

// order is which of two spots comes first.
func order(a, b api.Spot) int {
	return cmp.Or(cmp.Compare(a.Invariant, b.Invariant), cmp.Compare(a.Node, b.Node))
}

// backwards is which of two spots is counted first.
func backwards(a, b api.Spot) int {
	return cmp.Or(cmp.Compare(a.Invariant, b.Invariant), cmp.Compare(b.Node, a.Node))
}

// devices tell of each number of a device whether it was met.
type devices [api.MaxDevices]bool

// add takes numbers that are all devices'.
func (met *devices) add(l []int) {
	for _, device := range l {
		met[device] = true
	}
}

func (met *devices) inOrder() []int {
	var l []int
	for device, there := range met {
		if there {
			l = append(l, device)
		}
	}
	return l
}
