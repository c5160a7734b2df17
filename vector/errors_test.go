package vector_test

import (
	"math"
	"slices"
	"testing"
	"unsafe"

	"milestone/api"
	"milestone/vector"
)

// noVectors are rows of stamps that may not be vectors.
func noVectors() []api.Vector {
	all := full(func(device int) uint64 { return uint64(device) })
	return []api.Vector{
		{{Device: -1}},
		{{Device: api.MaxDevices}},
		{{Device: api.MaxDevices + 1, Version: 1}},
		{{Device: math.MinInt}},
		{{Device: math.MaxInt}},
		{{Device: 1 << 32}},
		{{Device: -1 << 32}},
		{{Device: -1}, {Device: 0}},
		{{Device: math.MinInt}, {Device: math.MaxInt}},
		{{Device: 0}, {Device: api.MaxDevices}},
		{{Device: 0}, {Device: 1}, {Device: math.MaxInt}},
		{{Device: 0}, {Device: -1}, {Device: 1}},
		stamps(1, 1, 1, 1),
		stamps(1, 1, 1, 2),
		stamps(0, 0, 0, 0),
		stamps(255, 1, 255, 1),
		stamps(2, 1, 1, 1),
		stamps(1, 1, 0, 5),
		stamps(0, 1, 3, 1, 2, 1),
		stamps(0, 1, 3, 1, 3, 1, 4, 1),
		stamps(255, 0, 0, 0),
		append(slices.Clone(all), api.Stamp{Device: 256}),
		append(slices.Clone(all), api.Stamp{Device: 255}),
		append(slices.Clone(all), api.Stamp{Device: 0}),
		append(slices.Clone(all), all...),
		append(api.Vector{{Device: -1}}, all...),
		make(api.Vector, 1<<16),
	}
}

// askNone asks all calls that are handed a vector but Same for ErrVector, and that all beside it is zero.
func askNone(t *testing.T, v api.Vector) {
	t.Helper()
	same(t, "Check's error", vector.Check(v), api.ErrVector)
	for _, device := range []int{0, 1, 255, -1, 256, math.MinInt, math.MaxInt} {
		if n, ok, e := vector.Get(v, device); n != 0 || ok || e != api.ErrVector {
			t.Errorf("Get(%v, %d) = %d, %v, %v, want ErrVector", v, device, n, ok, e)
		}
	}
	for _, l := range [][]api.Stamp{nil, stamps(0, 1), v, {{Device: -1}}, {{Device: 256}}, {{Device: 1}, {Device: math.MaxInt}}} {
		askNoWith(t, v, l, api.ErrVector)
	}
	good, other := stamps(0, 1, 7, 7), stamps(7, 8)
	for _, l := range [][]api.Vector{{v}, {v, good}, {good, v}, {nil, v}, {v, nil}, {v, v}, {good, other, v}, {v, good, other}, {good, v, other}} {
		same(t, "Check's error", vector.Check(l...), api.ErrVector)
		if got, ok, e := vector.Merge(l...); got != nil || ok || e != api.ErrVector {
			t.Errorf("Merge(%v) = %v, %v, %v, want ErrVector", l, got, ok, e)
		}
		if got, e := vector.Join(l...); got != nil || e != api.ErrVector {
			t.Errorf("Join(%v) = %v, %v, want ErrVector", l, got, e)
		}
	}
	for _, pair := range [][2]api.Vector{{v, v}, {v, nil}, {nil, v}, {v, good}, {good, v}} {
		if is, e := vector.Below(pair[0], pair[1]); is || e != api.ErrVector {
			t.Errorf("Below(%v, %v) = %v, %v, want ErrVector", pair[0], pair[1], is, e)
		}
	}
	if s, e := vector.Text(v); s != "" || e != api.ErrVector {
		t.Errorf("Text(%v) = %q, %v, want ErrVector", v, s, e)
	}
}

func askNoWith(t *testing.T, v api.Vector, l []api.Stamp, want api.Errno) {
	t.Helper()
	if got, e := vector.With(v, l...); got != nil || e != want {
		t.Errorf("With(%v, %v) = %v, %v, want %v", v, l, got, e, want)
	}
}

// ErrVector comes ahead of all.
func TestNoVectors(t *testing.T) {
	for _, v := range noVectors() {
		askNone(t, v)
	}
}

// P16.1: ErrRange, where the vector may be.
func TestWithNoDevice(t *testing.T) {
	for _, v := range []api.Vector{nil, {}, stamps(0, 1), stamps(3, 4, 255, 1), full(func(int) uint64 { return 1 })} {
		for _, device := range []int{-1, -2, -256, math.MinInt, api.MaxDevices, api.MaxDevices + 1, 1 << 16, 1 << 32, math.MaxInt} {
			no := api.Stamp{Device: device, Version: 1}
			for _, l := range [][]api.Stamp{{no}, {no, no}, {no, {Device: 1}}, {{Device: 1}, no}, {{Device: 3}, {Device: 3}, no, {Device: 2}}} {
				askNoWith(t, v, l, api.ErrRange)
			}
		}
	}
}

// P16.3: a row that may not be a vector is no error to Same.
func TestSameOfNoVectors(t *testing.T) {
	l := noVectors()
	for i, a := range l {
		for j, b := range l {
			askSame(t, slices.Clone(a), b, i == j)
		}
	}
}

// askUnchanged asks that a call leaves all rows, and what stands behind their ends, as they were.
func askUnchanged(t *testing.T, what string, rows []api.Vector, do func(l []api.Vector)) {
	t.Helper()
	behind := api.Stamp{Device: 77, Version: 77}
	var l, want []api.Vector
	for _, v := range rows {
		long := append(append(make(api.Vector, 0, len(v)+3), v...), behind, behind)
		l, want = append(l, long[:len(v)]), append(want, slices.Clone(long))
	}
	do(l)
	same(t, what+": as many rows as before", len(l), len(rows))
	for i := range l {
		same(t, what+": as many stamps as before", len(l[i]), len(rows[i]))
		same(t, what+": the row is as it was", slices.Equal(l[i][:len(rows[i])+2], want[i]), true)
	}
}

// Rule 4: nothing that is handed in is changed.
func TestNothingChanged(t *testing.T) {
	a, b, c, no := stamps(0, 1, 2, 5), stamps(2, 5, 3, 1), stamps(2, 6, 200, 0), stamps(2, 1, 1, 1)
	for _, rows := range [][]api.Vector{{a}, {a, b}, {b, a}, {a, b, c}, {c, b, a, a, c}, {nil, a}, {a, nil}, {no, a}, {a, no}, {nil, nil}} {
		askUnchanged(t, "Check", rows, func(l []api.Vector) { vector.Check(l...) })
		askUnchanged(t, "Merge", rows, func(l []api.Vector) { vector.Merge(l...) })
		askUnchanged(t, "Join", rows, func(l []api.Vector) { vector.Join(l...) })
		askUnchanged(t, "Get", rows, func(l []api.Vector) { vector.Get(l[0], 2) })
		askUnchanged(t, "Text", rows, func(l []api.Vector) { vector.Text(l[0]) })
		askUnchanged(t, "With", rows, func(l []api.Vector) { vector.With(l[0], l[len(l)-1]...) })
		askUnchanged(t, "With of others", rows, func(l []api.Vector) { vector.With(l[0], stamps(1, 9, 2, 9, 255, 9, 1, 8)...) })
		askUnchanged(t, "With of what is none", rows, func(l []api.Vector) { vector.With(l[0], api.Stamp{Device: 1}, api.Stamp{Device: -1}) })
		askUnchanged(t, "Below", rows, func(l []api.Vector) { vector.Below(l[0], l[len(l)-1]) })
		askUnchanged(t, "Same", rows, func(l []api.Vector) { vector.Same(l[0], l[len(l)-1]) })
	}
}

// overwritten asks that an answer stands, whatever becomes of rows that were handed in, or told otherwise.
func overwritten(t *testing.T, what string, told api.Vector, others ...api.Vector) {
	t.Helper()
	want := slices.Clone(told)
	for _, v := range others {
		v = v[:cap(v)]
		for i := range v {
			v[i] = api.Stamp{Device: 99, Version: 99}
		}
	}
	same(t, what+": the answer stands", slices.Equal(told, want), true)
	for i := range told {
		told[i] = api.Stamp{Device: 98, Version: 98}
	}
	_ = append(told, stamps(97, 97)...)
	for _, v := range others {
		for _, s := range v[:cap(v)] {
			same(t, what+": the others stand", s, api.Stamp{Device: 99, Version: 99})
		}
	}
}

// Rule 4: what is told is one's own.
func TestNothingKept(t *testing.T) {
	long := func() api.Vector { return append(make(api.Vector, 0, 9), stamps(0, 1, 2, 5)...) }
	for _, own := range []func() api.Vector{long, func() api.Vector { return long()[:0] }, func() api.Vector { return stamps(4, 4) }} {
		a, b := own(), own()
		told, _ := vector.With(a)
		overwritten(t, "With of nothing", told, a)
		a = own()
		told, _ = vector.With(a, b...)
		overwritten(t, "With", told, a, b)
		a, b = own(), own()
		told, _, _ = vector.Merge(a)
		overwritten(t, "Merge of one", told, a)
		told, _, _ = vector.Merge(b, nil)
		overwritten(t, "Merge of one and none", told, b)
		a, b = own(), own()
		told, _, _ = vector.Merge(nil, a, b, b)
		overwritten(t, "Merge", told, a, b)
		a = own()
		told, _ = vector.Join(a)
		overwritten(t, "Join of one", told, a)
		a, b = own(), own()
		told, _ = vector.Join(a, nil, b)
		overwritten(t, "Join", told, a, b)
	}
	first, _, _ := vector.Read("0:1 2:5")
	other, _, _ := vector.Read("0:1 2:5")
	overwritten(t, "Read", first, other)
	first, _ = vector.Join(stamps(1, 1), stamps(2, 2))
	other, _ = vector.Join(stamps(1, 1), stamps(2, 2))
	overwritten(t, "Join twice", first, other)
}

// Rule 4: nor does an empty answer lie where an empty argument does.
func TestEmptyAnswers(t *testing.T) {
	long := stamps(1, 1, 2, 2)
	empty := long[:0]
	with, _ := vector.With(empty)
	merged, _, _ := vector.Merge(empty)
	joined, _ := vector.Join(empty)
	for what, v := range map[string]api.Vector{"With": with, "Merge": merged, "Join": joined} {
		same(t, what+" of none has no stamps", len(v), 0)
		same(t, what+" of none lies elsewhere", unsafe.SliceData(v) != unsafe.SliceData(long), true)
	}
}

// Rule 5: a text that is told lies in no other one's place.
func TestTextsAreOnesOwn(t *testing.T) {
	v := stamps(0, 1, 2, 5)
	a, _ := vector.Text(v)
	b, _ := vector.Text(v)
	same(t, "two texts are alike", a, b)
	same(t, "two texts lie apart", unsafe.StringData(a) != unsafe.StringData(b), true)
}
