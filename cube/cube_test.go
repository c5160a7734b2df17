package cube_test

import (
	"slices"
	"strings"
	"testing"

	"milestone/api"
	"milestone/cube"
)

// notCubes are texts that every call refuses.
var notCubes = []string{
	"", "2", "X", " ", "-", "1 ", " 1", "1\n", "0\x00", "\xff", "é", "０",
	"10X", "x1x2", "2xx", "1*0",
	strings.Repeat("x", 129), strings.Repeat("0", 129), strings.Repeat("1", 300),
	strings.Repeat("x", 127) + "y",
}

// goodCubes are texts at the edges of what a cube is.
var goodCubes = []string{
	"0", "1", "x", "01x",
	strings.Repeat("x", 64), strings.Repeat("1", 65),
	strings.Repeat("x", 128), strings.Repeat("0", 128), strings.Repeat("1", 128),
}

func same(t *testing.T, what string, got, want any) {
	t.Helper()
	if got != want {
		t.Errorf("%s = %v, want %v", what, got, want)
	}
}

func sameList(t *testing.T, what string, got []string, want ...string) {
	t.Helper()
	if !slices.Equal(got, want) {
		t.Errorf("%s = %v, want %v", what, got, want)
	}
}

// P1.1

func TestCheck(t *testing.T) {
	for _, c := range goodCubes {
		same(t, "Check("+c+")", cube.Check(c), api.OK)
	}
	for _, c := range notCubes {
		same(t, "Check("+c+")", cube.Check(c), api.ErrCube)
	}
}

func TestCheckTakesThreeBytesOnly(t *testing.T) {
	for b := range 256 {
		want := api.ErrCube
		if b == '0' || b == '1' || b == 'x' {
			want = api.OK
		}
		alone := string([]byte{byte(b)})
		same(t, "Check of one byte", cube.Check(alone), want)
		same(t, "Check of a last byte", cube.Check("x0"+alone), want)
		same(t, "Check of a first byte", cube.Check(alone+"1x"), want)
	}
}

func TestEvery(t *testing.T) {
	for width := 1; width <= api.MaxBits; width++ {
		c, e := cube.Every(width)
		same(t, "Every's error", e, api.OK)
		same(t, "Every", c, strings.Repeat("x", width))
	}
	for _, width := range []int{0, -1, -128, 129, 130, 1 << 40, -1 << 63, 1<<63 - 1} {
		c, e := cube.Every(width)
		same(t, "Every's error", e, api.ErrArg)
		same(t, "Every", c, "")
	}
}

// P1.2

func TestMeet(t *testing.T) {
	for _, l := range [][3]string{
		{"1xx", "x0x", "10x"}, {"x", "x", "x"}, {"x", "0", "0"}, {"1", "x", "1"}, {"0", "0", "0"},
		{"10x", "1xx", "10x"}, {"xx01", "1xx1", "1x01"},
	} {
		c, ok, e := cube.Meet(l[0], l[1])
		same(t, "Meet's error", e, api.OK)
		same(t, "Meet", ok, true)
		same(t, "Meet", c, l[2])
	}
	for _, l := range [][2]string{{"0", "1"}, {"1x", "0x"}, {"x1", "10"}, {"xx01", "xx1x"}} {
		c, ok, e := cube.Meet(l[0], l[1])
		same(t, "Meet's error", e, api.OK)
		same(t, "Meet", ok, false)
		same(t, "Meet", c, "")
	}
}

func TestInside(t *testing.T) {
	for _, l := range []struct {
		a, b string
		want bool
	}{
		{"10x", "1xx", true}, {"1xx", "10x", false}, {"1x", "1x", true}, {"0", "x", true}, {"x", "0", false},
		{"x", "x", true}, {"0", "1", false}, {"1x", "x1", false}, {"00", "1x", false}, {"11", "xx", true},
	} {
		got, e := cube.Inside(l.a, l.b)
		same(t, "Inside's error", e, api.OK)
		same(t, "Inside("+l.a+", "+l.b+")", got, l.want)
	}
}

func TestHas(t *testing.T) {
	for _, l := range []struct {
		c, header string
		want      bool
	}{
		{"1x", "10", true}, {"1x", "11", true}, {"1x", "01", false}, {"x", "0", true}, {"0", "1", false}, {"010", "010", true},
	} {
		got, e := cube.Has(l.c, l.header)
		same(t, "Has's error", e, api.OK)
		same(t, "Has("+l.c+", "+l.header+")", got, l.want)
	}
	for _, header := range []string{"1x", "x", "xx", "", "12", "x2", "1xx"} {
		got, e := cube.Has("1x", header)
		same(t, "Has of "+header+": error", e, api.ErrCube)
		same(t, "Has of "+header, got, false)
	}
}

// P1.3

func TestCut(t *testing.T) {
	for _, l := range []struct {
		a, b string
		want []string
	}{
		{"xxx", "10x", []string{"0xx", "11x"}},
		{"1x", "1x", nil},
		{"10x", "1xx", nil},
		{"x", "x", nil},
		{"0", "1", []string{"0"}},
		{"0xx", "1x1", []string{"0xx"}},
		{"x", "0", []string{"1"}},
		{"x", "1", []string{"0"}},
		{"xxx", "111", []string{"0xx", "10x", "110"}},
		{"x0x1x", "xx0x1", []string{"x011x", "x0010"}},
		{"x1x", "0x0", []string{"11x", "011"}},
	} {
		got, e := cube.Cut(l.a, l.b)
		same(t, "Cut's error", e, api.OK)
		sameList(t, "Cut("+l.a+", "+l.b+")", got, l.want...)
	}
}

// P1.4

func TestLeft(t *testing.T) {
	for _, l := range []struct {
		c    string
		l    []string
		want []string
	}{
		{"xx", []string{"0x", "x1"}, []string{"10"}},
		{"1x", nil, []string{"1x"}},
		{"1x", []string{}, []string{"1x"}},
		{"xxx", []string{"10x"}, []string{"0xx", "11x"}},
		{"1x", []string{"1x"}, nil},
		{"1x", []string{"xx", "0x", "10"}, nil},
		{"1x", []string{"0x", "00"}, []string{"1x"}},
		{"xxx", []string{"111", "x0x"}, []string{"01x", "110"}},
		{"xxx", []string{"x0x", "111"}, []string{"01x", "110"}},
		{"xxx", []string{"111", "000"}, []string{"01x", "001", "10x", "110"}},
		{"xxx", []string{"000", "111"}, []string{"10x", "110", "01x", "001"}},
	} {
		got, e := cube.Left(l.c, l.l...)
		same(t, "Left's error", e, api.OK)
		sameList(t, "Left of "+l.c+" by "+strings.Join(l.l, " "), got, l.want...)
	}
}

// blocks are three cubes of 80 bits that are fixed at 32, 32 and 16 places, no two at the same, behind a beginning: each of the parts that one leaves is cut whole by the next, so 32 * 32 * 16 = MaxCubes are left of all headers.
func blocks(beginning string) []string {
	x, y, z := strings.Repeat("x", 16), strings.Repeat("01", 16), strings.Repeat("1", 16)
	return []string{beginning + y + x + x + x, beginning + x + x + y + x, beginning + x + x + x + x + z}
}

func TestLeftAtMostCubes(t *testing.T) {
	every := strings.Repeat("x", 80)
	left, e := cube.Left(every, blocks("")...)
	same(t, "Left's error", e, api.OK)
	same(t, "how many are left", len(left), api.MaxCubes)
	sameList(t, "what is left", left, leftByWords(every, blocks("")...)...)
	for fixed, want := range []api.Errno{api.OK, api.OK, api.ErrMany} {
		// Of the first one alone a part is taken: so many as it is fixed at come in its stead.
		part := strings.Replace(left[0], "x", "0", fixed)
		_, e = cube.Left(every, append(blocks(""), part)...)
		same(t, "Left's error with the first one cut", e, want)
	}
	none, e := cube.Left(every, append(blocks(""), every)...)
	same(t, "Left's error", e, api.OK)
	same(t, "how many are left at last", len(none), 0)
}

func TestLeftAboveMostCubes(t *testing.T) {
	every := strings.Repeat("x", 81)
	half := "1" + strings.Repeat("x", 80)
	same(t, "one too many", len(leftByWords(every, blocks("0")...)), api.MaxCubes+1)

	left, e := cube.Left(every, append([]string{half}, blocks("0")...)...)
	same(t, "Left's error at the limit", e, api.OK)
	same(t, "how many are left at the limit", len(left), api.MaxCubes)

	for _, l := range [][]string{
		blocks("0"),
		append(blocks("0"), half),  // at last there would be few enough
		append(blocks("0"), every), // at last there would be none
	} {
		left, e = cube.Left(every, l...)
		same(t, "Left's error above the limit", e, api.ErrMany)
		same(t, "how many are left beside the error", len(left), 0)
	}

	_, e = cube.Left(every, append(blocks("0"), "xx", "2")...)
	same(t, "Left's error with one that is no cube", e, api.ErrCube)
	_, e = cube.Left(every, append(blocks("0"), "xx")...)
	same(t, "Left's error with one of another width", e, api.ErrWidth)
}

// Many single headers are taken, one by one: what is left is the others, and never more than these.
func TestLeftByManyHeaders(t *testing.T) {
	var odd, even []string
	for _, h := range textsOf("01", 11) {
		if strings.Count(h, "1")%2 == 1 {
			odd = append(odd, h)
		} else {
			even = append(even, h)
		}
	}
	left, e := cube.Left(strings.Repeat("x", 11), odd...)
	same(t, "Left's error", e, api.OK)
	slices.Sort(left)
	sameList(t, "what is left", left, even...)
}

// P1.5

func TestFree(t *testing.T) {
	for c, want := range map[string]int{
		"0": 0, "1": 0, "x": 1, "1x0x": 2, "0101": 0,
		strings.Repeat("x", 128): 128, strings.Repeat("x", 127) + "1": 127, strings.Repeat("0", 128): 0,
	} {
		got, e := cube.Free(c)
		same(t, "Free's error", e, api.OK)
		same(t, "Free("+c+")", got, want)
	}
}

func TestFirst(t *testing.T) {
	for c, want := range map[string]string{
		"0": "0", "1": "1", "x": "0", "1x0x": "1000", "x1x": "010",
		strings.Repeat("x", 128): strings.Repeat("0", 128),
	} {
		got, e := cube.First(c)
		same(t, "First's error", e, api.OK)
		same(t, "First("+c+")", got, want)
	}
}

func TestApart(t *testing.T) {
	for _, l := range []struct {
		l    []string
		want bool
	}{
		{nil, true},
		{[]string{}, true},
		{[]string{"1x"}, true},
		{[]string{"x"}, true},
		{[]string{"0x", "1x"}, true},
		{[]string{"0x", "1x", "x0"}, false},
		{[]string{"x0", "0x", "1x"}, false},
		{[]string{"00", "1x", "01", "10"}, false},
		{[]string{"00", "11", "01", "10"}, true},
		{[]string{"0", "0"}, false},
		{[]string{"0x0", "111", "10x", "0x1", "0x0"}, false},
	} {
		got, e := cube.Apart(l.l...)
		same(t, "Apart's error", e, api.OK)
		same(t, "Apart of "+strings.Join(l.l, " "), got, l.want)
	}
}

func TestApartOfMany(t *testing.T) {
	headers := textsOf("01", 11)
	got, e := cube.Apart(headers...)
	same(t, "Apart's error", e, api.OK)
	same(t, "Apart of all headers", got, true)
	got, _ = cube.Apart(append(headers, headers[0])...)
	same(t, "Apart with the first once more", got, false)
}
