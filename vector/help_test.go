package vector_test

import (
	"math/rand"
	"slices"
	"testing"

	"milestone/api"
	"milestone/vector"
)

func same(t *testing.T, what string, got, want any) {
	t.Helper()
	if got != want {
		t.Errorf("%s = %v, want %v", what, got, want)
	}
}

// stamps is a row of stamps, told as devices with their versions.
func stamps(l ...uint64) api.Vector {
	var v api.Vector
	for i := 0; i < len(l); i += 2 {
		v = append(v, api.Stamp{Device: int(l[i]), Version: l[i+1]})
	}
	return v
}

// each goes through all vectors of so many devices, with the versions from 0 up to most.
func each(devices, most int, do func(v api.Vector)) {
	var grow func(v api.Vector, device int)
	grow = func(v api.Vector, device int) {
		if device == devices {
			do(slices.Clone(v))
			return
		}
		grow(v, device+1)
		for version := range uint64(most) + 1 {
			grow(append(slices.Clone(v), api.Stamp{Device: device, Version: version}), device+1)
		}
	}
	grow(nil, 0)
}

// allOf are all vectors of so many devices and versions.
func allOf(devices, most int) []api.Vector {
	var l []api.Vector
	each(devices, most, func(v api.Vector) { l = append(l, v) })
	return l
}

// full has all devices, of such a version each.
func full(version func(device int) uint64) api.Vector {
	var v api.Vector
	for device := range api.MaxDevices {
		v = append(v, api.Stamp{Device: device, Version: version(device)})
	}
	return v
}

// someVersion is a small one, or any.
func someVersion(r *rand.Rand) uint64 {
	switch r.Intn(4) {
	case 0:
		return r.Uint64()
	case 1:
		return ^uint64(0) - uint64(r.Intn(3))
	}
	return uint64(r.Intn(3))
}

// someVector has each of the first devices, and each of the last, perhaps; rarely many others.
func someVector(r *rand.Rand) api.Vector {
	var v api.Vector
	often := []int{2, 2, 2, 3, 40}[r.Intn(5)]
	for device := range api.MaxDevices {
		near := device < 4 || device >= api.MaxDevices-2
		if near && r.Intn(2) == 0 || !near && r.Intn(often*often*often) == 1 {
			v = append(v, api.Stamp{Device: device, Version: someVersion(r)})
		}
	}
	return v
}

// someParts are parts of a vector that agree with it.
func someParts(r *rand.Rand, v api.Vector, many int) []api.Vector {
	l := make([]api.Vector, many)
	for i := range l {
		for _, s := range v {
			if r.Intn(2) == 0 {
				l[i] = append(l[i], s)
			}
		}
	}
	return l
}

// someTimes asks of vectors that hang on nothing but the seed.
func someTimes(do func(r *rand.Rand)) {
	r := rand.New(rand.NewSource(16))
	for range 3000 {
		do(r)
	}
}

// shuffled are the same in another order.
func shuffled[T any](r *rand.Rand, l []T) []T {
	c := slices.Clone(l)
	r.Shuffle(len(c), func(i, j int) { c[i], c[j] = c[j], c[i] })
	return c
}

// rowsAlike tells whether two rows have the same stamps, nil or empty.
func rowsAlike(a, b api.Vector) bool {
	if len(a) != len(b) {
		return false
	}
	for i := range a {
		if a[i].Device != b[i].Device || a[i].Version != b[i].Version {
			return false
		}
	}
	return true
}

// askGet asks for a device's version, and whether there is one.
func askGet(t *testing.T, v api.Vector, device int, want uint64, has bool) {
	t.Helper()
	if n, ok, e := vector.Get(v, device); n != want || ok != has || e != api.OK {
		t.Errorf("Get(%v, %d) = %d, %v, %v, want %d, %v", v, device, n, ok, e, want, has)
	}
}

// askWith asks for a vector with other stamps.
func askWith(t *testing.T, v api.Vector, l []api.Stamp, want api.Vector) {
	t.Helper()
	if got, e := vector.With(v, l...); !rowsAlike(got, want) || e != api.OK {
		t.Errorf("With(%v, %v) = %v, %v, want %v", v, l, got, e, want)
	}
}

// askMerge asks for all stamps of vectors that agree.
func askMerge(t *testing.T, l []api.Vector, want api.Vector) {
	t.Helper()
	if got, ok, e := vector.Merge(l...); !rowsAlike(got, want) || !ok || e != api.OK {
		t.Errorf("Merge(%v) = %v, %v, %v, want %v, true", l, got, ok, e, want)
	}
}

// askNoMerge asks for nothing of vectors that do not agree.
func askNoMerge(t *testing.T, l []api.Vector) {
	t.Helper()
	if got, ok, e := vector.Merge(l...); len(got) != 0 || ok || e != api.OK {
		t.Errorf("Merge(%v) = %v, %v, %v, want nothing, false", l, got, ok, e)
	}
}

// askJoin asks for the greatest versions.
func askJoin(t *testing.T, l []api.Vector, want api.Vector) {
	t.Helper()
	if got, e := vector.Join(l...); !rowsAlike(got, want) || e != api.OK {
		t.Errorf("Join(%v) = %v, %v, want %v", l, got, e, want)
	}
}

// askBelow asks whether one is below another one.
func askBelow(t *testing.T, a, b api.Vector, want bool) {
	t.Helper()
	if got, e := vector.Below(a, b); got != want || e != api.OK {
		t.Errorf("Below(%v, %v) = %v, %v, want %v", a, b, got, e, want)
	}
}

// askSame asks whether two rows are alike, in either order.
func askSame(t *testing.T, a, b api.Vector, want bool) {
	t.Helper()
	if vector.Same(a, b) != want || vector.Same(b, a) != want {
		t.Errorf("Same(%v, %v) = %v, and the other way round %v, want %v", a, b, vector.Same(a, b), vector.Same(b, a), want)
	}
}

// askText asks for a vector's text, and for the vector of that text.
func askText(t *testing.T, v api.Vector, want string) {
	t.Helper()
	if s, e := vector.Text(v); s != want || e != api.OK {
		t.Errorf("Text(%v) = %q, %v, want %q", v, s, e, want)
	}
	if got, at, e := vector.Read(want); !rowsAlike(got, v) || at != 0 || e != api.OK {
		t.Errorf("Read(%q) = %v, %d, %v, want %v", want, got, at, e, v)
	}
}

// askFault asks for a text that is none, with its place.
func askFault(t *testing.T, s string, at int) {
	t.Helper()
	if v, got, e := vector.Read(s); v != nil || got != at || e != api.ErrText {
		t.Errorf("Read(%.80q) = %v, %d, %v, want nothing, ErrText at %d", s, v, got, e, at)
	}
}

// below is Below's answer of vectors that may be.
func below(t *testing.T, a, b api.Vector) bool {
	t.Helper()
	is, e := vector.Below(a, b)
	same(t, "Below's error", e, api.OK)
	return is
}

// join is Join's answer of vectors that may be.
func join(t *testing.T, l ...api.Vector) api.Vector {
	t.Helper()
	v, e := vector.Join(l...)
	same(t, "Join's error", e, api.OK)
	same(t, "Check's error of Join's answer", vector.Check(v), api.OK)
	return v
}

// merge is Merge's answer of vectors that may be.
func merge(t *testing.T, l ...api.Vector) (api.Vector, bool) {
	t.Helper()
	v, agree, e := vector.Merge(l...)
	same(t, "Merge's error", e, api.OK)
	same(t, "Check's error of Merge's answer", vector.Check(v), api.OK)
	same(t, "there is something beside false", !agree && len(v) > 0, false)
	return v, agree
}
