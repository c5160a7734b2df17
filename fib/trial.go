package fib

import (
	"slices"

	"milestone/api"
	"milestone/rules"
)

// fault is why a change may not be, and its number.
type fault struct {
	number int
	err    api.Errno
}

// trial is what changes make of a table's rules. At the first one that may not be it takes that down, and panics.
type trial struct {
	ordered
	fault
	undoing []api.Change // of each change that is done one that undoes it
}

// try does changes with rules of its own, so that those of the table stay whatever comes.
func (o *ordered) try(l []api.Change) (done trial) {
	done.ordered = ordered{o.width, slices.Clone(o.list)}
	defer func() {
		if recover() != nil {
			done = trial{fault: done.fault}
		}
	}()
	for i, c := range l {
		done.number = i
		done.do(c)
	}
	return done
}

// must gives up where something does not hold of a change.
func (t *trial) must(holds bool, e api.Errno) {
	if !holds {
		t.err = e
		panic(e)
	}
}

func (t *trial) do(c api.Change) {
	r := c.Rule
	switch c.Kind {
	case api.Insert:
		t.insert(r)
	case api.Delete:
		// Its Action plays no part, be it one or none.
		r.Action = api.Action{Kind: api.Drop}
		t.remove(r)
	case api.Modify:
		t.modify(r)
	default:
		t.must(false, api.ErrChange)
	}
}

func (t *trial) insert(r api.Rule) {
	t.check(r)
	at, there := t.find(r)
	t.must(!there, api.ErrSame)
	t.must(len(t.list) < api.MaxRules, api.ErrMany)
	r = copyOf(r)
	t.list = slices.Insert(t.list, at, r)
	t.undoneBy(api.Delete, r)
}

func (t *trial) remove(r api.Rule) {
	at := t.place(r)
	t.undoneBy(api.Insert, t.list[at])
	t.list = slices.Delete(t.list, at, at+1)
}

func (t *trial) modify(r api.Rule) {
	at := t.place(r)
	t.undoneBy(api.Modify, t.list[at])
	t.list[at] = copyOf(r)
}

func (t *trial) check(r api.Rule) {
	e := rules.Check(r, t.width)
	t.must(e == api.OK, e)
}

// place is that of the rule with another one's key, which must be there.
func (t *trial) place(r api.Rule) int {
	t.check(r)
	at, there := t.find(r)
	t.must(there, api.ErrKey)
	return at
}

func (t *trial) undoneBy(k api.ChangeKind, r api.Rule) {
	t.undoing = append(t.undoing, api.Change{Kind: k, Rule: r})
}

// back are the changes that undo all of them, the last one's first.
func (t *trial) back() []api.Change {
	l := make([]api.Change, 0, len(t.undoing))
	for _, c := range slices.Backward(t.undoing) {
		l = append(l, api.Change{Kind: c.Kind, Rule: copyOf(c.Rule)})
	}
	return l
}
