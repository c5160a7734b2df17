package cube_test

import (
	"slices"
	"strings"
	"testing"

	"milestone/api"
	"milestone/cube"
)

// textsOf are all texts of so many of the letters.
func textsOf(letters string, width int) []string {
	out := []string{""}
	for range width {
		var longer []string
		for _, s := range out {
			for _, r := range letters {
				longer = append(longer, s+string(r))
			}
		}
		out = longer
	}
	return out
}

// lies tells by the document's words whether a header lies in a cube.
func lies(header, c string) bool {
	for i := range len(c) {
		if c[i] != 'x' && c[i] != header[i] {
			return false
		}
	}
	return true
}

// inOne tells whether a header lies in one of several.
func inOne(header string, l []string) bool {
	return slices.ContainsFunc(l, func(c string) bool { return lies(header, c) })
}

// headersIn are those of headers that lie in all of several.
func headersIn(headers []string, cubes ...string) []string {
	var out []string
	for _, h := range headers {
		if !slices.ContainsFunc(cubes, func(c string) bool { return !lies(h, c) }) {
			out = append(out, h)
		}
	}
	return out
}

// cutByWords is Cut, byte by byte as the document says it.
func cutByWords(a, b string) []string {
	for i := range len(a) {
		if a[i] != 'x' && b[i] != 'x' && a[i] != b[i] {
			return []string{a}
		}
	}
	var out []string
	for i := range len(a) {
		if a[i] != 'x' || b[i] == 'x' {
			continue
		}
		part := ""
		for j := range i {
			if a[j] == 'x' {
				part += b[j : j+1]
			} else {
				part += a[j : j+1]
			}
		}
		out = append(out, part+string('0'+'1'-b[i])+a[i+1:])
	}
	return out
}

// leftByWords is Left, as the document says it.
func leftByWords(c string, l ...string) []string {
	left := []string{c}
	for _, b := range l {
		var next []string
		for _, a := range left {
			next = append(next, cutByWords(a, b)...)
		}
		left = next
	}
	return left
}

// eachPair goes through all pairs of cubes of few bits.
func eachPair(do func(a, b string, headers []string)) {
	for width := 1; width <= 4; width++ {
		cubes, headers := textsOf("01x", width), textsOf("01", width)
		for _, a := range cubes {
			for _, b := range cubes {
				do(a, b, headers)
			}
		}
	}
}

// P1.2, by headers.
func TestSetsOfHeaders(t *testing.T) {
	eachPair(func(a, b string, headers []string) {
		both := headersIn(headers, a, b)
		m, ok, e := cube.Meet(a, b)
		same(t, "Meet's error", e, api.OK)
		same(t, "Meet("+a+", "+b+")", ok, len(both) > 0)
		if ok {
			sameList(t, "headers of Meet("+a+", "+b+")", headersIn(headers, m), both...)
		}
		in, e := cube.Inside(a, b)
		same(t, "Inside's error", e, api.OK)
		same(t, "Inside("+a+", "+b+")", in, len(both) == len(headersIn(headers, a)))
		apart, e := cube.Apart(a, b)
		same(t, "Apart's error", e, api.OK)
		same(t, "Apart("+a+", "+b+")", apart, len(both) == 0)
	})
}

// P1.2 and P1.5, by headers.
func TestHeadersOfOne(t *testing.T) {
	for width := 1; width <= 4; width++ {
		headers := textsOf("01", width)
		for _, c := range textsOf("01x", width) {
			for _, h := range headers {
				has, e := cube.Has(c, h)
				same(t, "Has's error", e, api.OK)
				same(t, "Has("+c+", "+h+")", has, lies(h, c))
			}
			within := headersIn(headers, c)
			first, _ := cube.First(c)
			same(t, "First("+c+")", first, within[0])
			free, _ := cube.Free(c)
			same(t, "headers of "+c+" by Free", 1<<free, len(within))
		}
	}
}

// P1.3 and P1.6.
func TestParts(t *testing.T) {
	eachPair(func(a, b string, headers []string) {
		parts, e := cube.Cut(a, b)
		same(t, "Cut's error", e, api.OK)
		sameList(t, "Cut("+a+", "+b+")", parts, cutByWords(a, b)...)
		apart, _ := cube.Apart(append(parts, b)...)
		same(t, "parts of "+a+" without "+b+" apart", apart, true)
		for _, h := range headers {
			same(t, h+" in "+a, inOne(h, parts) || lies(h, a) && lies(h, b), lies(h, a))
		}
	})
}

// P1.4 and P1.7, of all triples of three bits.
func TestAllOrLeft(t *testing.T) {
	cubes, headers := textsOf("01x", 3), textsOf("01", 3)
	for _, c := range cubes {
		for _, p := range cubes {
			for _, q := range cubes {
				left, e := cube.Left(c, p, q)
				same(t, "Left's error", e, api.OK)
				sameList(t, "Left("+c+", "+p+", "+q+")", left, leftByWords(c, p, q)...)
				for _, h := range headers {
					taken := lies(h, c) && inOne(h, []string{p, q})
					same(t, h+" in "+c, inOne(h, left) || taken, lies(h, c))
					same(t, h+" both left and taken", inOne(h, left) && taken, false)
				}
			}
		}
	}
}

// P1.8.
func TestOrder(t *testing.T) {
	eachPair(func(a, b string, headers []string) {
		m, ok, _ := cube.Meet(a, b)
		n, other, _ := cube.Meet(b, a)
		if m != n || ok != other {
			t.Errorf("Meet(%s, %s) = %s, %v; the other way %s, %v", a, b, m, ok, n, other)
		}
	})
	cubes := textsOf("01x", 3)
	for _, a := range cubes {
		for _, b := range cubes {
			m, ok, _ := cube.Meet(a, b)
			for _, c := range cubes {
				inA, _ := cube.Inside(c, a)
				inB, _ := cube.Inside(c, b)
				inBoth := false
				if ok {
					inBoth, _ = cube.Inside(c, m)
				}
				same(t, c+" inside "+a+" and "+b, inBoth, inA && inB)
			}
		}
	}
}

// draw makes texts that look random and are the same each time.
type draw uint64

func (d *draw) text(letters string, width int) string {
	s := make([]byte, width)
	for i := range s {
		*d = *d*6364136223846793005 + 1442695040888963407
		s[i] = letters[uint64(*d)>>33%uint64(len(letters))]
	}
	return string(s)
}

// Wide cubes do as narrow ones do, on both sides of every width at which a machine's word ends.
func TestWide(t *testing.T) {
	d := draw(1)
	for _, width := range []int{8, 31, 32, 33, 63, 64, 65, 66, 127, 128} {
		for range 200 {
			// Few fixed bits, so that many of them meet.
			a, b, c := d.text("01xxxxxxxxxxxxxxxxxxx", width), d.text("01xxxxxxxxxxxxxxxxxxx", width), d.text("xxxxxx01", width)
			askWide(t, a, b, c)
			askWide(t, b, c, a)
			askWide(t, a, a, b)
			askWide(t, d.text("01", width), a, b)
		}
	}
}

func askWide(t *testing.T, a, b, c string) {
	t.Helper()
	parts, e := cube.Cut(a, b)
	same(t, "Cut's error", e, api.OK)
	sameList(t, "Cut("+a+", "+b+")", parts, cutByWords(a, b)...)
	left, e := cube.Left(a, b, c)
	same(t, "Left's error", e, api.OK)
	sameList(t, "Left("+a+", "+b+", "+c+")", left, leftByWords(a, b, c)...)
	apart, _ := cube.Apart(left...)
	same(t, "what is left apart", apart, true)

	m, ok, _ := cube.Meet(a, b)
	want, meets := meetByWords(a, b)
	if m != want || ok != meets {
		t.Errorf("Meet(%s, %s) = %s, %v, want %s, %v", a, b, m, ok, want, meets)
	}
	inside, _ := cube.Inside(a, b)
	same(t, "Inside("+a+", "+b+")", inside, meets && want == a)
	apart, _ = cube.Apart(a, b)
	same(t, "Apart("+a+", "+b+")", apart, !meets)
	if !strings.Contains(a, "x") {
		has, _ := cube.Has(b, a)
		same(t, "Has("+b+", "+a+")", has, lies(a, b))
	}
}

// meetByWords is Meet, byte by byte.
func meetByWords(a, b string) (string, bool) {
	s := ""
	for i := range len(a) {
		switch {
		case a[i] == b[i] || b[i] == 'x':
			s += a[i : i+1]
		case a[i] == 'x':
			s += b[i : i+1]
		default:
			return "", false
		}
	}
	return s, true
}

// One bit alone decides, wherever it stands.
func TestEachPlace(t *testing.T) {
	for i := range api.MaxBits {
		free := strings.Repeat("x", api.MaxBits)
		zero := free[:i] + "0" + free[i+1:]
		one := free[:i] + "1" + free[i+1:]
		apart, _ := cube.Apart(zero, one)
		same(t, "Apart", apart, true)
		_, ok, _ := cube.Meet(zero, one)
		same(t, "Meet", ok, false)
		in, _ := cube.Inside(zero, free)
		same(t, "Inside", in, true)
		in, _ = cube.Inside(free, zero)
		same(t, "Inside", in, false)
		in, _ = cube.Inside(one, zero)
		same(t, "Inside", in, false)
		parts, _ := cube.Cut(free, zero)
		sameList(t, "Cut", parts, one)
		parts, _ = cube.Cut(free, one)
		sameList(t, "Cut", parts, zero)
		left, _ := cube.Left(free, one, zero)
		sameList(t, "Left", left)
	}
}
