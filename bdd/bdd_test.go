package bdd_test

import (
	"math"
	"slices"
	"strings"
	"testing"

	"milestone/api"
	"milestone/bdd"
)

func TestNew(t *testing.T) {
	for _, c := range []struct {
		bits, limit int
		want        api.Errno
	}{
		{1, 0, api.OK}, {1, 1 << 20, api.OK}, {128, 0, api.OK}, {128, 1 << 20, api.OK}, {64, 1, api.OK}, {2, 1<<20 - 1, api.OK},
		{0, 0, api.ErrArg}, {129, 0, api.ErrArg}, {-1, 5, api.ErrArg}, {math.MinInt, 5, api.ErrArg}, {math.MaxInt, 5, api.ErrArg},
		{1, -1, api.ErrArg}, {1, 1<<20 + 1, api.ErrArg}, {1, math.MinInt, api.ErrArg}, {1, math.MaxInt, api.ErrArg}, {0, -1, api.ErrArg},
	} {
		x, e := bdd.New(c.bits, c.limit)
		if e != c.want || (x != nil) != (e == api.OK) {
			t.Errorf("New(%d, %d): %v, %v", c.bits, c.limit, x, e)
		}
		if e == api.OK && (x.Bits() != c.bits || x.Limit() != c.limit || x.Size() != 0) {
			t.Errorf("New(%d, %d): %d, %d, %d", c.bits, c.limit, x.Bits(), x.Limit(), x.Size())
		}
	}
}

func TestNewTellsOnlyEnds(t *testing.T) {
	x := makeTable(t, 2, 10)
	for r := api.Ref(-3); r < 10; r++ {
		_, _, e := x.Any(r)
		if want := r == 0 || r == 1; want != (e == api.OK) {
			t.Errorf("%d: %v", r, e)
		}
	}
}

func TestExample(t *testing.T) {
	x := makeTable(t, 2, 10)
	a, b := made(t)(x.Cube("1x")), made(t)(x.Cube("x1"))
	both := made(t)(x.And(a, b))
	if l, e := x.List(both); e != api.OK || !slices.Equal(l, []api.Node{{Bit: 1, Low: 0, High: 1}, {Bit: 0, Low: 0, High: 2}}) {
		t.Errorf("%v, %v", l, e)
	}
	if x.Size() != 3 {
		t.Errorf("size %d", x.Size())
	}
	either := made(t)(x.Or(a, b))
	if s, ok, e := x.Any(either); s != "01" || !ok || e != api.OK {
		t.Errorf("%q, %v, %v", s, ok, e)
	}
	if l, e := x.Cubes(either, 2); e != api.OK || !slices.Equal(l, []string{"01", "1x"}) {
		t.Errorf("%q, %v", l, e)
	}
}

func TestEnds(t *testing.T) {
	x := makeTable(t, 3, 0)
	for _, c := range []struct {
		name string
		ask  func() (api.Ref, api.Errno)
		want api.Ref
	}{
		{"Cube of all", func() (api.Ref, api.Errno) { return x.Cube("xxx") }, 1},
		{"And of none", func() (api.Ref, api.Errno) { return x.And() }, 1},
		{"And of an empty list", func() (api.Ref, api.Errno) { return x.And([]api.Ref{}...) }, 1},
		{"Or of none", func() (api.Ref, api.Errno) { return x.Or() }, 0},
		{"Or of an empty list", func() (api.Ref, api.Errno) { return x.Or([]api.Ref{}...) }, 0},
		{"And of yes", func() (api.Ref, api.Errno) { return x.And(1) }, 1},
		{"And with no", func() (api.Ref, api.Errno) { return x.And(1, 0, 1) }, 0},
		{"Or of no", func() (api.Ref, api.Errno) { return x.Or(0) }, 0},
		{"Or with yes", func() (api.Ref, api.Errno) { return x.Or(0, 1, 0) }, 1},
		{"Not no", func() (api.Ref, api.Errno) { return x.Not(0) }, 1},
		{"Not yes", func() (api.Ref, api.Errno) { return x.Not(1) }, 0},
		{"yes without no", func() (api.Ref, api.Errno) { return x.Diff(1, 0) }, 1},
		{"yes without yes", func() (api.Ref, api.Errno) { return x.Diff(1, 1) }, 0},
		{"no without yes", func() (api.Ref, api.Errno) { return x.Diff(0, 1) }, 0},
		{"no without no", func() (api.Ref, api.Errno) { return x.Diff(0, 0) }, 0},
		{"the second one", func() (api.Ref, api.Errno) { return x.Ite(1, 0, 1) }, 0},
		{"the third one", func() (api.Ref, api.Errno) { return x.Ite(0, 0, 1) }, 1},
	} {
		if r, e := c.ask(); r != c.want || e != api.OK {
			t.Errorf("%s: %d, %v", c.name, r, e)
		}
	}
	if x.Size() != 0 {
		t.Errorf("size %d", x.Size())
	}
}

func TestEndsAsked(t *testing.T) {
	x := makeTable(t, 3, 0)
	for r, want := range []bool{false, true} {
		a := api.Ref(r)
		if in, e := x.Has(a, "010"); in != want || e != api.OK {
			t.Errorf("Has(%d): %v, %v", a, in, e)
		}
		if l, e := x.List(a); len(l) != 0 || e != api.OK {
			t.Errorf("List(%d): %v, %v", a, l, e)
		}
	}
	if s, ok, e := x.Any(0); s != "" || ok || e != api.OK {
		t.Errorf("%q, %v, %v", s, ok, e)
	}
	if s, ok, e := x.Any(1); s != "xxx" || !ok || e != api.OK {
		t.Errorf("%q, %v, %v", s, ok, e)
	}
	if l, e := x.Cubes(0, 0); len(l) != 0 || e != api.OK {
		t.Errorf("%q, %v", l, e)
	}
	if l, e := x.Cubes(1, 1); !slices.Equal(l, []string{"xxx"}) || e != api.OK {
		t.Errorf("%q, %v", l, e)
	}
	if l, e := x.Cubes(1, 0); l != nil || e != api.ErrMany {
		t.Errorf("%q, %v", l, e)
	}
}

func TestOneBit(t *testing.T) {
	x := makeTable(t, 1, 2)
	a, b := made(t)(x.Cube("1")), made(t)(x.Cube("0"))
	if n := made(t)(x.Not(a)); n != b || x.Size() != 2 {
		t.Errorf("%d, %d, %d", a, b, n)
	}
	if l, e := x.List(b); e != api.OK || !slices.Equal(l, []api.Node{{Bit: 0, Low: 1, High: 0}}) {
		t.Errorf("%v, %v", l, e)
	}
}

func TestMostBits(t *testing.T) {
	x := makeTable(t, 128, 1000)
	s := strings.Repeat("01x", 42) + "10"
	a := made(t)(x.Cube(s))
	if got, ok, e := x.Any(a); got != s || !ok || e != api.OK {
		t.Errorf("%q, %v, %v", got, ok, e)
	}
	if l, e := x.Cubes(a, 1); !slices.Equal(l, []string{s}) || e != api.OK {
		t.Errorf("%q, %v", l, e)
	}
	if want := 128 - 42; x.Size() != want {
		t.Errorf("size %d, want %d", x.Size(), want)
	}
	for _, c := range []struct {
		header string
		want   bool
	}{{strings.ReplaceAll(s, "x", "1"), true}, {strings.ReplaceAll(s, "x", "0"), true}, {strings.Repeat("0", 128), false}} {
		if in, e := x.Has(a, c.header); in != c.want || e != api.OK {
			t.Errorf("%q: %v, %v", c.header, in, e)
		}
	}
	b := made(t)(x.Not(a))
	if u := made(t)(x.Or(a, b)); u != 1 {
		t.Errorf("%d", u)
	}
}

// parity holds of the headers with an odd number of letters 1: 2^(bits-1) ways, 2 nodes a bit but the first.
func parity(t *testing.T, x *bdd.Table) api.Ref {
	t.Helper()
	var odd api.Ref
	for i := range x.Bits() {
		s := []byte(strings.Repeat("x", x.Bits()))
		s[i] = '1'
		bit := made(t)(x.Cube(string(s)))
		odd = made(t)(x.Ite(bit, made(t)(x.Not(odd)), odd))
	}
	return odd
}

func TestCubesMost(t *testing.T) {
	x := makeTable(t, 6, 1000)
	odd := parity(t, x)
	for _, c := range []struct {
		most int
		want api.Errno
	}{{32, api.OK}, {33, api.OK}, {math.MaxInt, api.OK}, {31, api.ErrMany}, {1, api.ErrMany}, {0, api.ErrMany}, {-1, api.ErrArg}, {math.MinInt, api.ErrArg}} {
		l, e := x.Cubes(odd, c.most)
		if e != c.want || e != api.OK && l != nil || e == api.OK && len(l) != 32 {
			t.Errorf("%d: %d texts, %v", c.most, len(l), e)
		}
	}
}

func TestCubesManyWays(t *testing.T) {
	for _, bits := range []int{63, 64, 65, 66, 127, 128} {
		x := makeTable(t, bits, 100000)
		odd := parity(t, x)
		for _, most := range []int{0, 1, 1 << 20, 1<<61 - 1} {
			if l, e := x.Cubes(odd, most); l != nil || e != api.ErrMany {
				t.Errorf("%d bits, most %d: %v", bits, most, e)
			}
		}
		if bits >= 64 { // 2^63 ways and more: above the greatest number
			if l, e := x.Cubes(odd, math.MaxInt); l != nil || e != api.ErrMany {
				t.Errorf("%d bits: %v", bits, e)
			}
		}
	}
}

func TestLimitJustReached(t *testing.T) {
	x := makeTable(t, 3, 4)
	a := made(t)(x.Cube("111"))
	if x.Size() != 3 {
		t.Fatalf("size %d", x.Size())
	}
	for _, s := range []string{"000", "0xx", "11x", "110", "x01"} { // 3, 1, 2, 3 and 1 nodes that are not there
		before, fits := x.Size(), s == "0xx" || s == "x01"
		y := makeTable(t, 3, 4)
		made(t)(y.Cube("111"))
		r, e := y.Cube(s)
		if fits && (e != api.OK || y.Size() != 4) || !fits && (r != 0 || e != api.ErrFull || y.Size() != before) {
			t.Errorf("%q: %d, %v, size %d", s, r, e, y.Size())
		}
	}
	b := made(t)(x.Cube("1xx"))
	if x.Size() != 4 {
		t.Errorf("size %d", x.Size())
	}
	// What needs no new node is told at the limit, too.
	for _, c := range []struct {
		s    string
		want api.Ref
	}{{"111", a}, {"1xx", b}, {"xxx", 1}} {
		if r, e := x.Cube(c.s); r != c.want || e != api.OK {
			t.Errorf("%q: %d, %v", c.s, r, e)
		}
	}
	if r := made(t)(x.Cube("x11")); r < 2 || x.Size() != 4 {
		t.Errorf("%d, size %d", r, x.Size())
	}
	if r, e := x.Not(b); r != 0 || e != api.ErrFull {
		t.Errorf("%d, %v", r, e)
	}
}

func TestLimitZero(t *testing.T) {
	x := makeTable(t, 3, 0)
	if r, e := x.Cube("xx1"); r != 0 || e != api.ErrFull || x.Size() != 0 {
		t.Errorf("%d, %v", r, e)
	}
	if r, at, e := x.Make([]api.Node{{Bit: 2, High: 1}}); r != 0 || at != 0 || e != api.ErrFull || x.Size() != 0 {
		t.Errorf("%d, %d, %v", r, at, e)
	}
	if l, e := x.Keep(0, 1, 1); !slices.Equal(l, []api.Ref{0, 1, 1}) || e != api.OK {
		t.Errorf("%v, %v", l, e)
	}
}

// TestGreatestLimit comes to MaxNodes nodes by many texts, and then by texts of one node each.
func TestGreatestLimit(t *testing.T) {
	x := makeTable(t, 128, api.MaxNodes)
	for i := 0; ; i++ {
		b := []byte(strings.Repeat("x", 64) + strings.Repeat("1", 64))
		for j := range 20 {
			b[64+j] = "01"[i>>j&1]
		}
		before := x.Size()
		_, e := x.Cube(string(b))
		if x.Size() > api.MaxNodes {
			t.Fatalf("size %d", x.Size())
		}
		if e == api.ErrFull {
			if x.Size() != before || before < api.MaxNodes-64 {
				t.Errorf("size %d, before %d", x.Size(), before)
			}
			break
		}
		if e != api.OK {
			t.Fatal(e)
		}
	}
	for n := range 64 {
		if x.Size() == api.MaxNodes {
			break
		}
		s := []byte(strings.Repeat("x", 128))
		s[n] = '1'
		made(t)(x.Cube(string(s)))
	}
	if x.Size() != api.MaxNodes {
		t.Errorf("size %d", x.Size())
	}
	s := strings.Repeat("x", 63) + "0" + strings.Repeat("x", 64)
	if r, e := x.Cube(s); r != 0 || e != api.ErrFull || x.Size() != api.MaxNodes {
		t.Errorf("%d, %v, size %d", r, e, x.Size())
	}
}

// pairs are the functions: bit i and bit i + n, of n pairs. One of them has 2^n nodes and more.
func pairs(t *testing.T, x *bdd.Table, n int) []api.Ref {
	t.Helper()
	var l []api.Ref
	for i := range n {
		s := []byte(strings.Repeat("x", x.Bits()))
		s[i], s[i+n] = '1', '1'
		l = append(l, made(t)(x.Cube(string(s))))
	}
	return l
}

// TestBetween: what And and Or come upon on their way is not told, and does not count.
func TestBetween(t *testing.T) {
	const n = 13
	x := makeTable(t, 2*n, 300)
	l := pairs(t, x, n)
	var second []api.Ref
	for i := range n {
		s := []byte(strings.Repeat("x", 2*n))
		s[i+n] = '1'
		second = append(second, made(t)(x.Cube(string(s))))
	}
	some := made(t)(x.Or(second...))
	size := x.Size()
	if got := made(t)(x.Or(append(slices.Clone(l), some)...)); got != some || x.Size() != size {
		t.Errorf("Or: %d, want %d; size %d, want %d", got, some, x.Size(), size)
	}
	if r, e := x.Or(l...); r != 0 || e != api.ErrFull || x.Size() != size {
		t.Errorf("Or: %d, %v, size %d", r, e, x.Size())
	}
	var turned []api.Ref
	for _, r := range append(slices.Clone(l), some) {
		turned = append(turned, made(t)(x.Not(r)))
	}
	size = x.Size()
	if got := made(t)(x.And(turned...)); got != turned[n] || x.Size() != size {
		t.Errorf("And: %d, want %d; size %d, want %d", got, turned[n], x.Size(), size)
	}
	if r, e := x.And(turned[:n]...); r != 0 || e != api.ErrFull || x.Size() != size {
		t.Errorf("And: %d, %v, size %d", r, e, x.Size())
	}
}

// TestBetweenThenNew: nodes that are new in the last step, behind many that are not needed.
func TestBetweenThenNew(t *testing.T) {
	const n = 11
	// No pair holds of the one header, all of the other.
	one, other := "10101010101"+"01010101010", strings.Repeat("1", 2*n)
	for spare := range 2*n + 5 {
		x := makeTable(t, 2*n, api.MaxNodes)
		l := pairs(t, x, n)
		for i, r := range l {
			l[i] = made(t)(x.Not(r))
		}
		l = append(l, made(t)(x.Or(made(t)(x.Cube(one)), made(t)(x.Cube(other)))))
		lists := [][]api.Node{}
		for _, r := range l {
			list, _ := x.List(r)
			lists = append(lists, list)
		}
		x.Keep(l...)
		size := x.Size()
		made(t)(x.Cube(one))
		more := x.Size() - size
		if more < 2 || more > 2*n {
			t.Fatalf("%d nodes more", more)
		}
		y := makeTable(t, 2*n, size+spare)
		var refs []api.Ref
		for _, list := range lists {
			r, _, e := y.Make(list)
			refs = append(refs, made(t)(r, e))
		}
		r, e := y.And(refs...)
		if spare < more && (r != 0 || e != api.ErrFull || y.Size() != size) {
			t.Errorf("%d to spare, %d needed: %d, %v, size %d", spare, more, r, e, y.Size())
		}
		if spare >= more && (e != api.OK || y.Size() != size+more || made(t)(y.Cube(one)) != r) {
			t.Errorf("%d to spare, %d needed: %d, %v, size %d", spare, more, r, e, y.Size())
		}
	}
}

// TestLongFold: the same, one by one and all at once, where much that is not needed comes between.
func TestLongFold(t *testing.T) {
	const n = 13
	x, y := makeTable(t, 2*n, api.MaxNodes), makeTable(t, 2*n, api.MaxNodes)
	l := pairs(t, x, n)
	at := made(t)(x.Or(l...))
	var by api.Ref
	for _, p := range pairs(t, y, n) {
		by = made(t)(y.Or(by, p))
	}
	a, _ := x.List(at)
	b, _ := y.List(by)
	if len(a) < 1<<n || !slices.Equal(a, b) {
		t.Errorf("%d nodes, %d nodes", len(a), len(b))
	}
	y.Keep(by)
	x.Keep(at)
	if x.Size() != len(a) || y.Size() != len(a) {
		t.Errorf("size %d, %d; want %d", x.Size(), y.Size(), len(a))
	}
}

func TestSizeBehindFold(t *testing.T) {
	const n = 10
	x := makeTable(t, 2*n, api.MaxNodes)
	l := pairs(t, x, n)
	made(t)(x.Or(l...))
	// By hand: what the pairs and their Or need, each once.
	there := map[[3]int]int{}
	count := 0
	for r := api.Ref(2); ; r++ {
		list, e := x.List(r)
		if e != api.OK {
			break
		}
		numbers := []int{0, 1}
		for _, m := range list {
			k := [3]int{m.Bit, numbers[m.Low], numbers[m.High]}
			if _, ok := there[k]; !ok {
				there[k] = count + 2
				count++
			}
			numbers = append(numbers, there[k])
		}
	}
	if x.Size() != count {
		t.Errorf("size %d, want %d", x.Size(), count)
	}
}

func TestKeep(t *testing.T) {
	x := makeTable(t, 3, 5)
	a, b := made(t)(x.Cube("111")), made(t)(x.Cube("0xx"))
	l, e := x.Keep(b, a, 1, b, 0)
	if e != api.OK || len(l) != 5 || l[2] != 1 || l[4] != 0 || l[0] != l[3] || l[0] == l[1] || x.Size() != 4 {
		t.Fatalf("%v, %v, size %d", l, e, x.Size())
	}
	if s, _, e := x.Any(l[0]); s != "0xx" || e != api.OK {
		t.Errorf("%q, %v", s, e)
	}
	if s, _, e := x.Any(l[1]); s != "111" || e != api.OK {
		t.Errorf("%q, %v", s, e)
	}
	if r := made(t)(x.Cube("0xx")); r != l[0] {
		t.Errorf("%d, want %d", r, l[0])
	}
	for _, old := range []api.Ref{a, b} {
		if _, _, e := x.Any(old); e != api.ErrRef {
			t.Errorf("%d: %v", old, e)
		}
	}
	if _, e := x.Cube("000"); e != api.ErrFull {
		t.Errorf("%v", e)
	}
	if l, e := x.Keep(l[0]); e != api.OK || len(l) != 1 || x.Size() != 1 {
		t.Errorf("%v, %v, size %d", l, e, x.Size())
	}
	if _, e := x.Cube("000"); e != api.OK || x.Size() != 4 {
		t.Errorf("%v, size %d", e, x.Size())
	}
}

func TestKeepNothing(t *testing.T) {
	for _, keep := range [][]api.Ref{nil, {}, {0}, {1}, {1, 0}} {
		x := makeTable(t, 3, 9)
		a := made(t)(x.Cube("101"))
		l, e := x.Keep(keep...)
		if e != api.OK || !slices.Equal(l, keep) || x.Size() != 0 {
			t.Errorf("%v: %v, %v, size %d", keep, l, e, x.Size())
		}
		if _, e := x.Not(a); e != api.ErrRef {
			t.Errorf("%v", e)
		}
	}
}

func TestNothingIsShared(t *testing.T) {
	x := makeTable(t, 2, 20)
	a, b := made(t)(x.Cube("1x")), made(t)(x.Cube("x1"))
	args := []api.Ref{a, b}
	both := made(t)(x.And(args...))
	either := made(t)(x.Or(args...))
	if !slices.Equal(args, []api.Ref{a, b}) {
		t.Errorf("%v", args)
	}
	list, _ := x.List(both)
	want := slices.Clone(list)
	clear(list)
	if again, _ := x.List(both); !slices.Equal(again, want) {
		t.Errorf("%v", again)
	}
	given := slices.Clone(want)
	r, _, _ := x.Make(given)
	if !slices.Equal(given, want) || r != both {
		t.Errorf("%v, %d", given, r)
	}
	clear(given)
	cubes, _ := x.Cubes(either, 9)
	clear(cubes)
	if again, _ := x.Cubes(either, 9); !slices.Equal(again, []string{"01", "1x"}) {
		t.Errorf("%q", again)
	}
	args = []api.Ref{both, either}
	kept, _ := x.Keep(args...)
	if !slices.Equal(args, []api.Ref{both, either}) {
		t.Errorf("%v", args)
	}
	first := kept[0]
	clear(kept)
	if again, _ := x.List(first); !slices.Equal(again, want) {
		t.Errorf("%v", again)
	}
}

func TestTwoTables(t *testing.T) {
	x, y := makeTable(t, 2, 2), makeTable(t, 3, 9)
	a := made(t)(x.Cube("1x"))
	for _, s := range []string{"111", "000", "010"} {
		made(t)(y.Cube(s))
	}
	y.Keep()
	if s, _, e := x.Any(a); s != "1x" || e != api.OK || x.Size() != 1 || y.Size() != 0 {
		t.Errorf("%q, %v, %d, %d", s, e, x.Size(), y.Size())
	}
}
