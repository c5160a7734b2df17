package cube_test

import (
	"slices"
	"strings"
	"testing"

	"milestone/api"
	"milestone/cube"
)

// zeroBeside asks that beside an error all other results are zero.
func zeroBeside(t *testing.T, what string, e, want api.Errno, zero bool) {
	t.Helper()
	same(t, what+"'s error", e, want)
	if !zero {
		t.Errorf("%s: beside an error a result is not zero", what)
	}
}

// askTwo asks all calls that take two cubes (of Has: both as the cube and as the header).
func askTwo(t *testing.T, a, b string, want api.Errno) {
	t.Helper()
	c, ok, e := cube.Meet(a, b)
	zeroBeside(t, "Meet("+a+", "+b+")", e, want, c == "" && !ok)
	ok, e = cube.Inside(a, b)
	zeroBeside(t, "Inside("+a+", "+b+")", e, want, !ok)
	l, e := cube.Cut(a, b)
	zeroBeside(t, "Cut("+a+", "+b+")", e, want, len(l) == 0)
	l, e = cube.Left(a, b)
	zeroBeside(t, "Left("+a+", "+b+")", e, want, len(l) == 0)
	ok, e = cube.Apart(a, b)
	zeroBeside(t, "Apart("+a+", "+b+")", e, want, !ok)
}

func TestNoCube(t *testing.T) {
	for _, c := range notCubes {
		askTwo(t, c, "1x", api.ErrCube)
		askTwo(t, "1x", c, api.ErrCube)
		askTwo(t, c, c, api.ErrCube)
		ok, e := cube.Has(c, "10")
		zeroBeside(t, "Has("+c+", 10)", e, api.ErrCube, !ok)
		ok, e = cube.Has("1x", c)
		zeroBeside(t, "Has(1x, "+c+")", e, api.ErrCube, !ok)
		l, e := cube.Left(c)
		zeroBeside(t, "Left("+c+")", e, api.ErrCube, len(l) == 0)
		l, e = cube.Left("1x", "x0", "11", c)
		zeroBeside(t, "Left(1x, x0, 11, "+c+")", e, api.ErrCube, len(l) == 0)
		ok, e = cube.Apart(c)
		zeroBeside(t, "Apart("+c+")", e, api.ErrCube, !ok)
		ok, e = cube.Apart("1x", "1x", c)
		zeroBeside(t, "Apart(1x, 1x, "+c+")", e, api.ErrCube, !ok)
		n, e := cube.Free(c)
		zeroBeside(t, "Free("+c+")", e, api.ErrCube, n == 0)
		h, e := cube.First(c)
		zeroBeside(t, "First("+c+")", e, api.ErrCube, h == "")
	}
}

func TestUnlikeWidths(t *testing.T) {
	long := strings.Repeat("1", 128)
	for _, l := range [][2]string{{"1x", "1"}, {"1", "1x"}, {"0", "11"}, {"x", "xx"}, {long, long[1:]}, {long[64:], long}} {
		askTwo(t, l[0], l[1], api.ErrWidth)
	}
	for _, l := range [][2]string{{"1x", "1"}, {"1", "11"}, {"0", "11"}, {long, long[1:]}, {"x", long}} {
		ok, e := cube.Has(l[0], l[1])
		zeroBeside(t, "Has("+l[0]+", "+l[1]+")", e, api.ErrWidth, !ok)
	}
	l, e := cube.Left("x", "0", "1", "x1")
	zeroBeside(t, "Left", e, api.ErrWidth, len(l) == 0)
	ok, e := cube.Apart("0", "0", "01")
	zeroBeside(t, "Apart", e, api.ErrWidth, !ok)
	ok, e = cube.Apart("0x", "0", "0")
	zeroBeside(t, "Apart", e, api.ErrWidth, !ok)
}

// ErrCube comes ahead of ErrWidth, wherever the one that is no cube stands.
func TestNoCubeAheadOfUnlikeWidths(t *testing.T) {
	askTwo(t, "1x2", "1", api.ErrCube)
	askTwo(t, "1", "1x2", api.ErrCube)
	askTwo(t, "", "1", api.ErrCube)
	_, e := cube.Left("x", "01", "2")
	same(t, "Left's error", e, api.ErrCube)
	_, e = cube.Apart("x", "01", "")
	same(t, "Apart's error", e, api.ErrCube)
	_, e = cube.Has("1", "1x")
	same(t, "Has's error of a free header of another width", e, api.ErrCube)
	_, e = cube.Has("2", "11")
	same(t, "Has's error of no cube of another width", e, api.ErrCube)
}

// Nothing is kept, nothing that is handed in is changed, and no two answers share memory.
func TestNothingKept(t *testing.T) {
	given := make([]string, 2, 8)
	given[0], given[1] = "111", "000"
	spare := given[:4]
	spare[2], spare[3] = "behind", "it"
	first, _ := cube.Left("xxx", given...)
	sameList(t, "what was handed in", spare, "111", "000", "behind", "it")
	want := slices.Clone(first)
	for i := range first {
		first[i] = "spoilt"
	}
	again, _ := cube.Left("xxx", given...)
	sameList(t, "Left asked again", again, want...)

	parts, _ := cube.Cut("xxx", "10x")
	parts[0] = "spoilt"
	parts, _ = cube.Cut("xxx", "10x")
	sameList(t, "Cut asked again", parts, "0xx", "11x")

	cube.Apart(given...)
	sameList(t, "what was handed in", spare, "111", "000", "behind", "it")
}

// A refused call leaves no trace in the next one.
func TestAfterError(t *testing.T) {
	cube.Meet("1xx", "x0")
	cube.Meet("1xx", "x02")
	c, ok, e := cube.Meet("1xx", "x0x")
	if c != "10x" || !ok || e != api.OK {
		t.Errorf("Meet = %s, %v, %d", c, ok, e)
	}
}
