package bdd_test

import (
	"math"
	"slices"
	"strings"
	"testing"

	"milestone/api"
	"milestone/bdd"
)

// calls are all calls of a table that tell an error, each with arguments at which it does not fail; each tells whether all results but the error are zero.
func calls(x *bdd.Table) map[string]func() (bool, api.Errno) {
	ref := func(r api.Ref, e api.Errno) (bool, api.Errno) { return r == 0, e }
	return map[string]func() (bool, api.Errno){
		"Cube": func() (bool, api.Errno) { return ref(x.Cube("1x")) },
		"And":  func() (bool, api.Errno) { return ref(x.And(1, 1)) },
		"Or":   func() (bool, api.Errno) { return ref(x.Or(1, 1)) },
		"Not":  func() (bool, api.Errno) { return ref(x.Not(0)) },
		"Diff": func() (bool, api.Errno) { return ref(x.Diff(1, 0)) },
		"Ite":  func() (bool, api.Errno) { return ref(x.Ite(1, 1, 0)) },
		"Has": func() (bool, api.Errno) {
			in, e := x.Has(1, "10")
			return !in, e
		},
		"Any": func() (bool, api.Errno) {
			s, ok, e := x.Any(1)
			return s == "" && !ok, e
		},
		"Cubes": func() (bool, api.Errno) {
			l, e := x.Cubes(1, 1)
			return l == nil, e
		},
		"List": func() (bool, api.Errno) {
			l, e := x.List(1)
			return len(l) == 0, e
		},
		"Make": func() (bool, api.Errno) {
			r, at, e := x.Make([]api.Node{{Bit: 1, High: 1}})
			return r == 0 && at == 0, e
		},
		"Keep": func() (bool, api.Errno) {
			l, e := x.Keep(1)
			return l == nil, e
		},
	}
}

func TestNoTable(t *testing.T) {
	x := makeTable(t, 2, 9)
	made(t)(x.Cube("1x"))
	copied := *x
	for name, no := range map[string]*bdd.Table{"nil": nil, "none made": {}, "new": new(bdd.Table), "a copy": &copied} {
		if no.Bits() != 0 || no.Limit() != 0 || no.Size() != 0 {
			t.Errorf("%s: %d, %d, %d", name, no.Bits(), no.Limit(), no.Size())
		}
		for call, ask := range calls(no) {
			if zero, e := ask(); !zero || e != api.ErrNil {
				t.Errorf("%s: %s: %v, %v", name, call, zero, e)
			}
		}
	}
	if x.Size() != 1 {
		t.Errorf("size %d", x.Size())
	}
	for call, ask := range calls(x) {
		if _, e := ask(); e != api.OK {
			t.Errorf("%s: %v", call, e)
		}
	}
}

// TestNoTableFirst: ErrNil is ahead of all other errors.
func TestNoTableFirst(t *testing.T) {
	for _, no := range []*bdd.Table{nil, {}} {
		for name, ask := range map[string]func() api.Errno{
			"Cube":  func() api.Errno { _, e := no.Cube("?"); return e },
			"And":   func() api.Errno { _, e := no.And(-1, 7); return e },
			"Or":    func() api.Errno { _, e := no.Or(-1, 7); return e },
			"Not":   func() api.Errno { _, e := no.Not(7); return e },
			"Diff":  func() api.Errno { _, e := no.Diff(7, 7); return e },
			"Ite":   func() api.Errno { _, e := no.Ite(7, 7, 7); return e },
			"Has":   func() api.Errno { _, e := no.Has(7, "?"); return e },
			"Any":   func() api.Errno { _, _, e := no.Any(7); return e },
			"Cubes": func() api.Errno { _, e := no.Cubes(7, -1); return e },
			"List":  func() api.Errno { _, e := no.List(7); return e },
			"Make":  func() api.Errno { _, _, e := no.Make([]api.Node{{Bit: -1}}); return e },
			"Keep":  func() api.Errno { _, e := no.Keep(7); return e },
		} {
			if e := ask(); e != api.ErrNil {
				t.Errorf("%s: %v", name, e)
			}
		}
	}
}

// noCubes are texts that are none of three letters.
var noCubes = []string{"", "1", "1x", "1x01", "1xX", "2x0", "x1 ", "x\x001", "é1", "1é", "10é", "xx\xff", strings.Repeat("x", 128), strings.Repeat("x", 129), strings.Repeat("1", 1<<20)}

func TestTextsThatAreNone(t *testing.T) {
	x := makeTable(t, 3, 9)
	a := made(t)(x.Cube("1x1"))
	for _, s := range noCubes {
		if r, e := x.Cube(s); r != 0 || e != api.ErrText {
			t.Errorf("Cube(%.9q): %d, %v", s, r, e)
		}
		if in, e := x.Has(a, s); in || e != api.ErrText {
			t.Errorf("Has(%.9q): %v, %v", s, in, e)
		}
	}
	for _, s := range []string{"xxx", "1x1", "x01", "10x"} {
		if in, e := x.Has(1, s); in || e != api.ErrText {
			t.Errorf("Has(%q): %v, %v", s, in, e)
		}
	}
	if x.Size() != 2 {
		t.Errorf("size %d", x.Size())
	}
}

func TestLongTexts(t *testing.T) {
	x := makeTable(t, 128, 200)
	for _, s := range []string{strings.Repeat("1", 127), strings.Repeat("1", 129), strings.Repeat("1", 127) + "2"} {
		if _, e := x.Cube(s); e != api.ErrText {
			t.Errorf("%d: %v", len(s), e)
		}
		if _, e := x.Has(1, s); e != api.ErrText {
			t.Errorf("%d: %v", len(s), e)
		}
	}
}

// TestTextAheadOfFull: a text that is none, where there is no room either.
func TestTextAheadOfFull(t *testing.T) {
	x := makeTable(t, 3, 0)
	if _, e := x.Cube("11"); e != api.ErrText {
		t.Errorf("%v", e)
	}
	if _, e := x.Cube("11?"); e != api.ErrText {
		t.Errorf("%v", e)
	}
}

func TestRefsThatAreNotTold(t *testing.T) {
	x := makeTable(t, 3, 6)
	a := made(t)(x.Cube("111"))
	old := made(t)(x.Cube("0xx"))
	kept, _ := x.Keep(a)
	a = kept[0]
	for _, bad := range []api.Ref{-1, -2, a + 1, a + 2, a + 3, a - 1, old, 1 << 20, 1 << 40, math.MaxInt, math.MinInt, math.MinInt + 1, math.MinInt + 2, math.MinInt + 3} {
		if bad < 2 && bad >= 0 {
			t.Fatalf("%d is told", bad)
		}
		for name, ask := range map[string]func() (bool, api.Errno){
			"And":         func() (bool, api.Errno) { r, e := x.And(bad); return r == 0, e },
			"And last":    func() (bool, api.Errno) { r, e := x.And(0, 1, a, bad); return r == 0, e },
			"And first":   func() (bool, api.Errno) { r, e := x.And(bad, 1, a); return r == 0, e },
			"Or":          func() (bool, api.Errno) { r, e := x.Or(bad); return r == 0, e },
			"Or last":     func() (bool, api.Errno) { r, e := x.Or(1, a, bad); return r == 0, e },
			"Or first":    func() (bool, api.Errno) { r, e := x.Or(bad, a, 1); return r == 0, e },
			"Not":         func() (bool, api.Errno) { r, e := x.Not(bad); return r == 0, e },
			"Diff first":  func() (bool, api.Errno) { r, e := x.Diff(bad, 1); return r == 0, e },
			"Diff second": func() (bool, api.Errno) { r, e := x.Diff(0, bad); return r == 0, e },
			"Ite first":   func() (bool, api.Errno) { r, e := x.Ite(bad, 1, 1); return r == 0, e },
			"Ite second":  func() (bool, api.Errno) { r, e := x.Ite(0, bad, 1); return r == 0, e },
			"Ite third":   func() (bool, api.Errno) { r, e := x.Ite(1, 1, bad); return r == 0, e },
			"Has":         func() (bool, api.Errno) { in, e := x.Has(bad, "111"); return !in, e },
			"Has no text": func() (bool, api.Errno) { in, e := x.Has(bad, "1?"); return !in, e },
			"Any":         func() (bool, api.Errno) { s, ok, e := x.Any(bad); return s == "" && !ok, e },
			"Cubes":       func() (bool, api.Errno) { l, e := x.Cubes(bad, 9); return l == nil, e },
			"Cubes most":  func() (bool, api.Errno) { l, e := x.Cubes(bad, -1); return l == nil, e },
			"List":        func() (bool, api.Errno) { l, e := x.List(bad); return l == nil, e },
			"Keep":        func() (bool, api.Errno) { l, e := x.Keep(bad); return l == nil, e },
			"Keep last":   func() (bool, api.Errno) { l, e := x.Keep(a, 0, bad); return l == nil, e },
		} {
			if zero, e := ask(); !zero || e != api.ErrRef {
				t.Errorf("%s of %d: %v, %v", name, bad, zero, e)
			}
		}
	}
	if s, ok, e := x.Any(a); s != "111" || !ok || e != api.OK || x.Size() != 3 {
		t.Errorf("%q, %v, %v, size %d", s, ok, e, x.Size())
	}
}

// TestNodesWithinAreNotTold: a node of a told function has no ref till a call tells it.
func TestNodesWithinAreNotTold(t *testing.T) {
	x := makeTable(t, 3, 9)
	a := made(t)(x.Cube("111"))
	count := 0
	for r := api.Ref(-9); r < 99; r++ {
		if _, _, e := x.Any(r); e == api.OK {
			count++
		}
	}
	if count != 3 {
		t.Errorf("%d refs are told, not 0, 1 and %d alone", count, a)
	}
}

// TestRefAheadOfFull: a ref that is not told, where there is no room either.
func TestRefAheadOfFull(t *testing.T) {
	x := makeTable(t, 2, 2)
	a, b := made(t)(x.Cube("1x")), made(t)(x.Cube("x1"))
	for _, ask := range []func(l ...api.Ref) (api.Ref, api.Errno){x.And, x.Or} {
		if r, e := ask(a, b); r != 0 || e != api.ErrFull {
			t.Errorf("%d, %v", r, e)
		}
		if r, e := ask(a, b, 77); r != 0 || e != api.ErrRef {
			t.Errorf("%d, %v", r, e)
		}
	}
	if _, e := x.Ite(a, b, 77); e != api.ErrRef {
		t.Errorf("%v", e)
	}
}

// TestFullChangesNothing: at each call that tells refs.
func TestFullChangesNothing(t *testing.T) {
	x := makeTable(t, 3, 3)
	a, b := made(t)(x.Cube("1xx")), made(t)(x.Cube("x1x"))
	c := made(t)(x.Cube("xx1"))
	told := []api.Ref{0, 1, a, b, c}
	for name, ask := range map[string]func() (api.Ref, api.Errno){
		"Cube":         func() (api.Ref, api.Errno) { return x.Cube("001") },
		"And":          func() (api.Ref, api.Errno) { return x.And(a, b) },
		"And of three": func() (api.Ref, api.Errno) { return x.And(a, b, c) },
		"Or":           func() (api.Ref, api.Errno) { return x.Or(a, b) },
		"Or of three":  func() (api.Ref, api.Errno) { return x.Or(a, b, c) },
		"Not":          func() (api.Ref, api.Errno) { return x.Not(a) },
		"Diff":         func() (api.Ref, api.Errno) { return x.Diff(a, b) },
		"Ite":          func() (api.Ref, api.Errno) { return x.Ite(a, b, c) },
		"Make": func() (api.Ref, api.Errno) {
			r, at, e := x.Make([]api.Node{{Bit: 1, High: 1}, {Bit: 0, High: 2}})
			return r + api.Ref(at), e
		},
	} {
		if r, e := ask(); r != 0 || e != api.ErrFull || x.Size() != 3 {
			t.Errorf("%s: %d, %v, size %d", name, r, e, x.Size())
		}
		for r := api.Ref(-3); r < 50; r++ {
			if _, _, e := x.Any(r); (e == api.OK) != slices.Contains(told, r) {
				t.Errorf("%s: Any(%d): %v", name, r, e)
			}
		}
		for i, s := range []string{"1xx", "x1x", "xx1"} {
			if r, e := x.Cube(s); r != told[i+2] || e != api.OK {
				t.Errorf("%s: %q: %d, %v", name, s, r, e)
			}
			if l, e := x.Cubes(told[i+2], 9); !slices.Equal(l, []string{s}) || e != api.OK {
				t.Errorf("%s: %q: %q, %v", name, s, l, e)
			}
		}
	}
}

// TestListsThatAreNone: each with the place that is told; three bits.
func TestListsThatAreNone(t *testing.T) {
	low := api.Node{Bit: 2, High: 1}
	turned := api.Node{Bit: 2, Low: 1}
	middle := api.Node{Bit: 1, High: 1}
	for _, c := range []struct {
		name string
		l    []api.Node
		at   int
	}{
		{"a bit below", []api.Node{{Bit: -1, High: 1}}, 0},
		{"a bit above", []api.Node{{Bit: 3, High: 1}}, 0},
		{"the least bit", []api.Node{{Bit: math.MinInt, High: 1}}, 0},
		{"the greatest bit", []api.Node{{Bit: math.MaxInt, High: 1}}, 0},
		{"Low below 0", []api.Node{{Bit: 0, Low: -1, High: 1}}, 0},
		{"High below 0", []api.Node{{Bit: 0, Low: 1, High: -1}}, 0},
		{"Low far below 0", []api.Node{{Bit: 0, Low: math.MinInt, High: 1}}, 0},
		{"High far above", []api.Node{{Bit: 0, Low: 1, High: math.MaxInt}}, 0},
		{"Low is itself", []api.Node{{Bit: 0, Low: 2, High: 1}}, 0},
		{"High is itself", []api.Node{{Bit: 0, Low: 1, High: 2}}, 0},
		{"Low is behind it", []api.Node{{Bit: 0, Low: 3, High: 1}, low}, 0},
		{"High is behind it", []api.Node{low, {Bit: 0, Low: 1, High: 4}, turned}, 1},
		{"both are no", []api.Node{{Bit: 2}}, 0},
		{"both are yes", []api.Node{{Bit: 2, Low: 1, High: 1}}, 0},
		{"both are one node", []api.Node{low, {Bit: 0, Low: 2, High: 2}}, 1},
		{"Low has its bit", []api.Node{middle, {Bit: 1, Low: 2, High: 1}}, 1},
		{"High has its bit", []api.Node{middle, {Bit: 1, Low: 1, High: 2}}, 1},
		{"Low has a lesser bit", []api.Node{middle, {Bit: 2, Low: 2, High: 1}}, 1},
		{"High has a lesser bit", []api.Node{middle, {Bit: 2, Low: 1, High: 2}}, 1},
		{"a node is there twice", []api.Node{low, low}, 1},
		{"a node is there twice, not side by side", []api.Node{low, turned, low}, 2},
		{"the first one is told", []api.Node{low, {Bit: 9}, {Bit: -1}, low}, 1},
		{"a node that may not be, where the order is wrong too", []api.Node{turned, low, {Bit: 5}}, 2},
		{"a node that is not needed", []api.Node{low, middle}, 2},
		{"a node that is not needed, in front", []api.Node{low, turned, {Bit: 1, High: 3}}, 3},
		{"High's nodes ahead of Low's", []api.Node{low, turned, {Bit: 0, Low: 3, High: 2}}, 3},
		{"nodes of High among Low's", []api.Node{low, turned, {Bit: 1, Low: 2, High: 1}, {Bit: 1, Low: 3, High: 1}, {Bit: 0, Low: 4, High: 5}}, 5},
		{"the last one is within another", []api.Node{low, {Bit: 0, High: 2}, turned}, 3},
	} {
		x := makeTable(t, 3, 20)
		r, at, e := x.Make(c.l)
		if r != 0 || at != c.at || e != api.ErrList || x.Size() != 0 {
			t.Errorf("%s: %d, %d, %v, size %d; want %d", c.name, r, at, e, x.Size(), c.at)
		}
		full := makeTable(t, 3, 0)
		if _, at, e := full.Make(c.l); at != c.at || e != api.ErrList {
			t.Errorf("%s, at limit 0: %d, %v; want %d", c.name, at, e, c.at)
		}
	}
}

func TestLists(t *testing.T) {
	x := makeTable(t, 3, 20)
	for _, c := range []struct {
		l     []api.Node
		cubes []string
	}{
		{nil, nil},
		{[]api.Node{}, nil},
		{[]api.Node{{Bit: 2, High: 1}}, []string{"xx1"}},
		{[]api.Node{{Bit: 2, Low: 1}}, []string{"xx0"}},
		{[]api.Node{{Bit: 2, High: 1}, {Bit: 2, Low: 1}, {Bit: 0, Low: 2, High: 3}}, []string{"0x1", "1x0"}},
		{[]api.Node{{Bit: 2, High: 1}, {Bit: 1, Low: 1, High: 2}, {Bit: 0, Low: 3, High: 2}}, []string{"00x", "011", "1x1"}},
		{[]api.Node{{Bit: 2, High: 1}, {Bit: 1, Low: 1, High: 2}, {Bit: 0, Low: 2, High: 3}}, []string{"0x1", "10x", "111"}},
	} {
		r, at, e := x.Make(c.l)
		if at != 0 || e != api.OK {
			t.Errorf("%v: %d, %v", c.l, at, e)
			continue
		}
		if got, e := x.Cubes(r, 9); !slices.Equal(got, c.cubes) || e != api.OK {
			t.Errorf("%v: %q, %v", c.l, got, e)
		}
	}
}

func TestMakeAtTheLimit(t *testing.T) {
	l := []api.Node{{Bit: 2, High: 1}, {Bit: 1, Low: 1, High: 2}, {Bit: 0, Low: 3, High: 2}}
	for limit, want := range []api.Errno{api.ErrFull, api.ErrFull, api.ErrFull, api.OK, api.OK} {
		x := makeTable(t, 3, limit)
		r, at, e := x.Make(l)
		if e != want || at != 0 || (r == 0) != (e != api.OK) || e != api.OK && x.Size() != 0 {
			t.Errorf("limit %d: %d, %d, %v, size %d", limit, r, at, e, x.Size())
		}
	}
	x := makeTable(t, 3, 3)
	made(t)(x.Cube("xx1")) // one of the three is there
	if _, _, e := x.Make(l); e != api.OK || x.Size() != 3 {
		t.Errorf("%v, size %d", e, x.Size())
	}
}

// TestMakeOfManyNodes: a list of more nodes than any table may have.
func TestMakeOfManyNodes(t *testing.T) {
	x := makeTable(t, 128, api.MaxNodes)
	// Of each bit, from the last one on, nodes that lead to those below it; the last one does not need them all.
	l := []api.Node{{Bit: 127, High: 1}, {Bit: 127, Low: 1}}
	for bit := 126; len(l) <= api.MaxNodes; bit-- {
		n := len(l) + 2
		for a := 0; a < n && len(l) <= api.MaxNodes; a++ {
			for b := max(0, a-3); b < a; b++ {
				l = append(l, api.Node{Bit: bit, Low: a, High: b})
			}
		}
	}
	if _, at, e := x.Make(l); at != len(l) || e != api.ErrList || x.Size() != 0 {
		t.Errorf("%d of %d, %v, size %d", at, len(l), e, x.Size())
	}
}
