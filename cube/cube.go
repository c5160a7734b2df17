// Package cube is layer 1: ternary headers, what they have in common, and what is left of one without others.
package cube

import (
	"strings"

	"milestone/api"
)

// Check tells whether a text is a ternary header.
func Check(c string) api.Errno {
	_, e := read(c)
	return e
}

// Every is the one of all headers.
func Every(width int) (string, api.Errno) {
	if width < 1 || width > api.MaxBits {
		return "", api.ErrArg
	}
	return strings.Repeat("x", width), api.OK
}

// Meet is what two have in common.
func Meet(a, b string) (string, bool, api.Errno) {
	l, e := read(a, b)
	if e != api.OK {
		return "", false, e
	}
	if !l[0].meets(l[1]) {
		return "", false, api.OK
	}
	return l[0].meet(l[1]).text(len(a)), true, api.OK
}

// Inside tells whether one lies in the other.
func Inside(a, b string) (bool, api.Errno) {
	l, e := read(a, b)
	if e != api.OK {
		return false, e
	}
	return l[0].inside(l[1]), api.OK
}

// Has tells whether a header lies in one.
func Has(c, header string) (bool, api.Errno) {
	// Asked ahead of all else, since a free bit of the header outranks unlike widths.
	if strings.Contains(header, "x") {
		return false, api.ErrCube
	}
	return Inside(header, c)
}

// Cut is what is left of one without another one, in parts that do not meet.
func Cut(a, b string) ([]string, api.Errno) {
	l, e := read(a, b)
	if e != api.OK {
		return nil, e
	}
	return texts(l[0].cut(l[1], len(a), nil), len(a)), api.OK
}

// Left is what is left of one without several.
func Left(c string, l ...string) ([]string, api.Errno) {
	cubes, e := read(append([]string{c}, l...)...)
	if e != api.OK {
		return nil, e
	}
	left := []ternary{cubes[0]}
	var spare []ternary
	for _, b := range cubes[1:] {
		next := cutEach(left, b, len(c), spare[:0])
		if len(next) > api.MaxCubes {
			return nil, api.ErrMany
		}
		left, spare = next, left
	}
	return texts(left, len(c)), api.OK
}

// Free is how many bits are free.
func Free(c string) (int, api.Errno) {
	if e := Check(c); e != api.OK {
		return 0, e
	}
	return strings.Count(c, "x"), api.OK
}

// First is the least header in one.
func First(c string) (string, api.Errno) {
	if e := Check(c); e != api.OK {
		return "", e
	}
	header := []byte(c)
	for i := range header {
		if header[i] == 'x' {
			header[i] = '0'
		}
	}
	return string(header), api.OK
}

// Apart tells whether no two of several meet.
func Apart(l ...string) (bool, api.Errno) {
	cubes, e := read(l...)
	if e != api.OK {
		return false, e
	}
	for i, a := range cubes {
		for _, b := range cubes[:i] {
			if a.meets(b) {
				return false, api.OK
			}
		}
	}
	return true, api.OK
}
