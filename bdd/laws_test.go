package bdd_test

import (
	"math/rand"
	"slices"
	"testing"

	"milestone/api"
	"milestone/bdd"
)

func TestCubeOfEveryText(t *testing.T) {
	for bits := 1; bits <= 4; bits++ {
		x := makeTable(t, bits, 1000)
		for _, s := range textsOf("01x", bits) {
			r := made(t)(x.Cube(s))
			if got := textOf(bits, func(h string) bool { in, _ := x.Has(r, h); return in }); got != textOf(bits, func(h string) bool { return fits(h, s) }) {
				t.Errorf("%q: %s", s, got)
			}
		}
	}
}

// TestEveryFunction asks all of each function of up to three bits.
func TestEveryFunction(t *testing.T) {
	for bits := 1; bits <= 3; bits++ {
		x := makeTable(t, bits, 10000)
		texts, refs := everyFunction(t, x)
		seen := map[api.Ref]string{}
		for _, s := range texts {
			r := refs[s]
			if other, ok := seen[r]; ok {
				t.Errorf("%s and %s have the ref %d", s, other, r)
			}
			seen[r] = s
			if got := textOf(bits, func(h string) bool { in, e := x.Has(r, h); return in && e == api.OK }); got != s {
				t.Errorf("Has: %s, want %s", got, s)
			}
			want, ok := anyOf(s, bits)
			if a, some, e := x.Any(r); a != want || some != ok || e != api.OK {
				t.Errorf("Any of %s: %q, %v, %v; want %q", s, a, some, e, want)
			}
			cubes := cubesOf(s, bits)
			if l, e := x.Cubes(r, len(cubes)); !slices.Equal(l, cubes) || e != api.OK {
				t.Errorf("Cubes of %s: %q, %v; want %q", s, l, e, cubes)
			}
			if l, e := x.Cubes(r, len(cubes)-1); len(cubes) > 0 && (l != nil || e != api.ErrMany) {
				t.Errorf("Cubes of %s: %q, %v", s, l, e)
			}
			list := listOf(s, bits)
			if l, e := x.List(r); !slices.Equal(l, list) || e != api.OK {
				t.Errorf("List of %s: %v, %v; want %v", s, l, e, list)
			}
			back, at, e := x.Make(list)
			if end := ownNode(s) == "1"; !end && back != r || end && back != 0 || at != 0 || e != api.OK { // of yes there are no nodes, as of no
				t.Errorf("Make of %v: %d, %d, %v; want %d", list, back, at, e, r)
			}
		}
	}
}

// TestEveryTwo puts together each two functions of up to three bits.
func TestEveryTwo(t *testing.T) {
	for bits := 1; bits <= 3; bits++ {
		x := makeTable(t, bits, 10000)
		texts, refs := everyFunction(t, x)
		size := 1 << bits
		for _, a := range texts {
			if r := made(t)(x.Not(refs[a])); r != refs[joined(not, size, a)] {
				t.Errorf("not %s: %d", a, r)
			}
			for _, b := range texts {
				if r := made(t)(x.And(refs[a], refs[b])); r != refs[joined(all, size, a, b)] {
					t.Errorf("%s and %s: %d", a, b, r)
				}
				if r := made(t)(x.Or(refs[a], refs[b])); r != refs[joined(one, size, a, b)] {
					t.Errorf("%s or %s: %d", a, b, r)
				}
				if r := made(t)(x.Diff(refs[a], refs[b])); r != refs[joined(diff, size, a, b)] {
					t.Errorf("%s without %s: %d", a, b, r)
				}
			}
		}
	}
}

// TestEveryThree puts together each three functions of two bits.
func TestEveryThree(t *testing.T) {
	x := makeTable(t, 2, 10000)
	texts, refs := everyFunction(t, x)
	for _, a := range texts {
		for _, b := range texts {
			for _, c := range texts {
				if r := made(t)(x.Ite(refs[a], refs[b], refs[c])); r != refs[joined(ite, 4, a, b, c)] {
					t.Errorf("%s, %s, %s: %d", a, b, c, r)
				}
				if r := made(t)(x.And(refs[a], refs[b], refs[c])); r != refs[joined(all, 4, a, b, c)] {
					t.Errorf("%s and %s and %s: %d", a, b, c, r)
				}
				if r := made(t)(x.Or(refs[a], refs[b], refs[c])); r != refs[joined(one, 4, a, b, c)] {
					t.Errorf("%s or %s or %s: %d", a, b, c, r)
				}
			}
		}
	}
}

// someCubes are refs of texts that nobody chose by hand.
func someCubes(t *testing.T, x *bdd.Table, rnd *rand.Rand, n int) []api.Ref {
	t.Helper()
	var l []api.Ref
	for range n {
		s := make([]byte, x.Bits())
		for i := range s {
			s[i] = "01xxx"[rnd.Intn(5)]
		}
		l = append(l, made(t)(x.Cube(string(s))))
	}
	return l
}

// TestLaws holds the laws of an algebra against functions of many bits.
func TestLaws(t *testing.T) {
	rnd := rand.New(rand.NewSource(2))
	for range 60 {
		x := makeTable(t, 12, 100000)
		do := made(t)
		a, b, c := do(x.Or(someCubes(t, x, rnd, 4)...)), do(x.Or(someCubes(t, x, rnd, 4)...)), do(x.Or(someCubes(t, x, rnd, 4)...))
		notA, notB := do(x.Not(a)), do(x.Not(b))
		for name, pair := range map[string][2]api.Ref{
			"De Morgan of And":    {do(x.Not(do(x.And(a, b)))), do(x.Or(notA, notB))},
			"De Morgan of Or":     {do(x.Not(do(x.Or(a, b)))), do(x.And(notA, notB))},
			"absorption by And":   {do(x.And(a, do(x.Or(a, b)))), a},
			"absorption by Or":    {do(x.Or(a, do(x.And(a, b)))), a},
			"excluded middle":     {do(x.Or(a, notA)), 1},
			"nothing is both":     {do(x.And(a, notA)), 0},
			"twice turned":        {do(x.Not(notA)), a},
			"either order":        {do(x.And(a, b)), do(x.And(b, a))},
			"either order of Or":  {do(x.Or(a, b)), do(x.Or(b, a))},
			"one by one":          {do(x.And(a, b, c)), do(x.And(do(x.And(a, b)), c))},
			"one by one, Or":      {do(x.Or(a, b, c)), do(x.Or(a, do(x.Or(b, c))))},
			"spread":              {do(x.And(a, do(x.Or(b, c)))), do(x.Or(do(x.And(a, b)), do(x.And(a, c))))},
			"without":             {do(x.Diff(a, b)), do(x.And(a, notB))},
			"if":                  {do(x.Ite(a, b, c)), do(x.Or(do(x.And(a, b)), do(x.And(notA, c))))},
			"one alone":           {do(x.And(a)), a},
			"one alone, Or":       {do(x.Or(a)), a},
			"the same twice":      {do(x.And(a, a)), a},
			"the same twice, Or":  {do(x.Or(a, a)), a},
			"without itself":      {do(x.Diff(a, a)), 0},
			"if it holds":         {do(x.Ite(a, a, b)), do(x.Or(a, b))},
			"if it does not hold": {do(x.Ite(a, b, a)), do(x.And(a, b))},
		} {
			if pair[0] != pair[1] {
				t.Errorf("%s: %d, %d", name, pair[0], pair[1])
			}
		}
	}
}

// TestEachOnce: the texts of Cubes do not meet, and are the function together; Make of List is the ref.
func TestEachOnce(t *testing.T) {
	rnd := rand.New(rand.NewSource(3))
	for range 60 {
		x := makeTable(t, 10, 100000)
		a := made(t)(x.Or(someCubes(t, x, rnd, 8)...))
		if a == 1 { // of which there is no way back: its list is empty, as that of no
			continue
		}
		l, e := x.Cubes(a, 1000)
		if e != api.OK {
			t.Fatal(e)
		}
		var sum api.Ref
		for _, s := range l {
			c := made(t)(x.Cube(s))
			if both := made(t)(x.And(sum, c)); both != 0 {
				t.Errorf("%q meets one ahead of it", s)
			}
			sum = made(t)(x.Or(sum, c))
		}
		if sum != a {
			t.Errorf("%d, want %d", sum, a)
		}
		if first, _, _ := x.Any(a); first != l[0] {
			t.Errorf("%q, %q", first, l[0])
		}
		list, _ := x.List(a)
		if r, _, e := x.Make(list); r != a || e != api.OK {
			t.Errorf("%d, %v; want %d", r, e, a)
		}
		y := makeTable(t, 10, len(list))
		r, _, e := y.Make(list)
		if again, _ := y.List(r); e != api.OK || !slices.Equal(again, list) || y.Size() != len(list) {
			t.Errorf("%v, %v", again, e)
		}
	}
}

// TestLowFirst: the texts stand in the order of 0 ahead of 1.
func TestLowFirst(t *testing.T) {
	x := makeTable(t, 3, 100)
	a := made(t)(x.Or(made(t)(x.Cube("1x0")), made(t)(x.Cube("x11"))))
	if l, e := x.Cubes(a, 9); !slices.Equal(l, []string{"011", "100", "11x"}) || e != api.OK {
		t.Errorf("%q, %v", l, e)
	}
}

// wrongNode is the number of the first node of a list that may not be there, by the document's words; -1, if there is none.
func wrongNode(l []api.Node, bits int) int {
	for i, n := range l {
		own := i + 2
		bad := n.Bit < 0 || n.Bit > bits-1 || n.Low < 0 || n.High < 0 || n.Low >= own || n.High >= own || n.Low == n.High
		bad = bad || n.Low >= 2 && l[n.Low-2].Bit <= n.Bit
		bad = bad || n.High >= 2 && l[n.High-2].Bit <= n.Bit
		if bad || slices.Contains(l[:i], n) {
			return i
		}
	}
	return -1
}

// listText is the text of the function of a list's last node.
func listText(l []api.Node, bits int) string {
	return textOf(bits, func(h string) bool {
		n := len(l) + 1
		for n >= 2 {
			at := l[n-2]
			n = at.Low
			if h[at.Bit] == '1' {
				n = at.High
			}
		}
		return n == 1
	})
}

// tryList holds Make of a list against the document's words.
func tryList(t *testing.T, x *bdd.Table, l []api.Node) {
	t.Helper()
	r, at, e := x.Make(l)
	bits := x.Bits()
	if wrong := wrongNode(l, bits); wrong >= 0 {
		if r != 0 || at != wrong || e != api.ErrList {
			t.Errorf("%v: %d, %d, %v; want %d", l, r, at, e, wrong)
		}
		return
	}
	if len(l) == 0 {
		if r != 0 || at != 0 || e != api.OK {
			t.Errorf("%v: %d, %d, %v", l, r, at, e)
		}
		return
	}
	s := listText(l, bits)
	if !slices.Equal(listOf(s, bits), l) {
		if r != 0 || at != len(l) || e != api.ErrList {
			t.Errorf("%v: %d, %d, %v; want %d", l, r, at, e, len(l))
		}
		return
	}
	got := textOf(bits, func(h string) bool { in, _ := x.Has(r, h); return in })
	if got != s || at != 0 || e != api.OK {
		t.Errorf("%v: %d of %s, %d, %v; want %s", l, r, got, at, e, s)
	}
}

// TestEveryShortList makes each list of up to two nodes, and many of more.
func TestEveryShortList(t *testing.T) {
	x := makeTable(t, 2, 1000)
	var nodes []api.Node
	for bit := -1; bit <= 2; bit++ {
		for low := -1; low <= 4; low++ {
			for high := -1; high <= 4; high++ {
				nodes = append(nodes, api.Node{Bit: bit, Low: low, High: high})
			}
		}
	}
	tryList(t, x, nil)
	for _, a := range nodes {
		tryList(t, x, []api.Node{a})
		for _, b := range nodes {
			tryList(t, x, []api.Node{a, b})
		}
	}
	rnd := rand.New(rand.NewSource(4))
	for range 60000 {
		var l []api.Node
		for i := range 1 + rnd.Intn(6) {
			l = append(l, api.Node{Bit: max(0, 3-i+rnd.Intn(2)), Low: rnd.Intn(i + 2), High: rnd.Intn(i + 2)})
		}
		tryList(t, makeTable(t, 4, 100), l)
	}
}
