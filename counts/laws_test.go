package counts_test

import (
	"math/rand"
	"slices"
	"strings"
	"testing"

	"milestone/api"
	"milestone/counts"
)

func sum(t *testing.T, bound int, l ...api.Counts) api.Counts {
	t.Helper()
	c, e := counts.Sum(bound, l...)
	same(t, "Sum's error", e, api.OK)
	return c
}

func union(t *testing.T, bound int, l ...api.Counts) api.Counts {
	t.Helper()
	c, e := counts.Union(bound, l...)
	same(t, "Union's error", e, api.OK)
	return c
}

// someSet is a set of a bound: of few elements, of many, or of any number.
func someSet(r *rand.Rand, bound int) api.Counts {
	all := setOf(upTo(bound)...)
	for {
		c := api.Counts(r.Uint64())
		switch r.Intn(3) {
		case 0:
			c &= api.Counts(r.Uint64()) & api.Counts(r.Uint64()) & api.Counts(r.Uint64())
		case 1:
			c |= api.Counts(r.Uint64()) | api.Counts(r.Uint64())
		}
		if c&all != 0 {
			return c & all
		}
	}
}

// someTimes goes through rows of three sets of each bound: all of the least bounds, some of the others.
func someTimes(do func(bound int, a, b, c api.Counts)) {
	for bound := range 2 {
		eachSet(bound, func(a api.Counts) {
			eachSet(bound, func(b api.Counts) {
				eachSet(bound, func(c api.Counts) { do(bound, a, b, c) })
			})
		})
	}
	r := rand.New(rand.NewSource(8))
	for bound := 2; bound <= api.MaxCount; bound++ {
		for range 40 {
			do(bound, someSet(r, bound), someSet(r, bound), someSet(r, bound))
		}
	}
}

// P8.1, P8.2: number by number.
func TestSumAndUnionByNumbers(t *testing.T) {
	ask := func(bound int, l ...api.Counts) {
		var numbers [][]int
		var all []int
		for _, c := range l {
			askList(t, bound, c, numbersOf(c)...)
			askOf(t, bound, numbersOf(c), c)
			numbers = append(numbers, numbersOf(c))
			all = append(all, numbersOf(c)...)
		}
		askSum(t, bound, l, setOf(sumsByNumbers(bound, numbers...)...))
		askUnion(t, bound, l, setOf(all...))
	}
	for bound := range 5 {
		eachSet(bound, func(a api.Counts) {
			ask(bound, a)
			eachSet(bound, func(b api.Counts) { ask(bound, a, b) })
		})
	}
	someTimes(func(bound int, a, b, c api.Counts) {
		ask(bound, a)
		ask(bound, a, b)
		ask(bound, a, b, c)
		ask(bound, a, b, c, a, c)
	})
}

// P8.5
func TestAlgebra(t *testing.T) {
	someTimes(func(bound int, a, b, c api.Counts) {
		want := sum(t, bound, a, b, c)
		for _, l := range [][]api.Counts{{a, c, b}, {b, a, c}, {b, c, a}, {c, a, b}, {c, b, a}} {
			same(t, "Sum in another order", sum(t, bound, l...), want)
		}
		same(t, "Sum with brackets", sum(t, bound, sum(t, bound, a, b), c), want)
		same(t, "Sum with other brackets", sum(t, bound, a, sum(t, bound, b, c)), want)
		same(t, "Sum with none", sum(t, bound, sum(t, bound), a), a)
		same(t, "Sum with 0 alone", sum(t, bound, a, 1), a)
		same(t, "Sum of 0 alone with it", sum(t, bound, 1, a), a)

		want = union(t, bound, a, b, c)
		for _, l := range [][]api.Counts{{a, c, b}, {b, a, c}, {b, c, a}, {c, a, b}, {c, b, a}} {
			same(t, "Union in another order", union(t, bound, l...), want)
		}
		same(t, "Union with brackets", union(t, bound, union(t, bound, a, b), c), want)
		same(t, "Union with other brackets", union(t, bound, a, union(t, bound, b, c)), want)

		want = union(t, bound, sum(t, bound, a, c), sum(t, bound, b, c))
		same(t, "Sum of a Union", sum(t, bound, union(t, bound, a, b), c), want)
		want = union(t, bound, sum(t, bound, c, a), sum(t, bound, c, b))
		same(t, "Sum with a Union", sum(t, bound, c, union(t, bound, a, b)), want)
	})
}

// P8.6: of numbers up to far above the bound.
func TestByNumbers(t *testing.T) {
	r := rand.New(rand.NewSource(6))
	for bound := 0; bound <= api.MaxCount; bound++ {
		for range 60 {
			var sets []api.Counts
			sums := []int{0}
			for range r.Intn(4) {
				var numbers, next []int
				for range 1 + r.Intn(4) {
					numbers = append(numbers, r.Intn(2*bound+3))
				}
				c, e := counts.Of(bound, numbers...)
				same(t, "Of's error", e, api.OK)
				sets = append(sets, c)
				for _, a := range sums {
					for _, b := range numbers {
						next = append(next, a+b)
					}
				}
				sums = next
			}
			want, e := counts.Of(bound, sums...)
			same(t, "Of's error", e, api.OK)
			askSum(t, bound, sets, want)
		}
	}
}

// P8.3: each set of small bounds, number by number.
func TestComparesByNumbers(t *testing.T) {
	ask := func(bound int, c api.Counts) {
		for compare := api.Equal; compare <= api.Least; compare++ {
			l := numbersOf(c)
			at := slices.IndexFunc(l, func(i int) bool { return !holdsByWords(bound, compare, i) })
			if at < 0 {
				askHolds(t, bound, compare, l...)
			} else {
				askBreaks(t, bound, compare, l[at], l...)
			}
		}
	}
	for bound := range 8 {
		eachSet(bound, func(c api.Counts) { ask(bound, c) })
	}
	someTimes(func(bound int, a, b, c api.Counts) { ask(bound, a) })
}

// P8.7
func TestMonotone(t *testing.T) {
	ask := func(bound int, a, b api.Counts) {
		for compare := api.Equal; compare <= api.Least; compare++ {
			less, _ := counts.Holds(bound, compare, a)
			more, e := counts.Holds(bound, compare, union(t, bound, a, b))
			if e != api.OK || more && !less {
				t.Errorf("Holds(%d, %d) of %b: %v, with %b: %v, %v", bound, compare, a, less, b, more, e)
			}
		}
	}
	for bound := range 5 {
		eachSet(bound, func(a api.Counts) {
			eachSet(bound, func(b api.Counts) { ask(bound, a, b) })
		})
	}
	someTimes(func(bound int, a, b, c api.Counts) { ask(bound, a, b) })
}

// P8.8
func TestThereAndBack(t *testing.T) {
	ask := func(bound int, c api.Counts) {
		askText(t, bound, c, textOf(bound, numbersOf(c)...))
	}
	for bound := range 12 {
		eachSet(bound, func(c api.Counts) { ask(bound, c) })
	}
	someTimes(func(bound int, a, b, c api.Counts) { ask(bound, a) })
}

// goesOn tells whether there is a text with this beginning: of its parts between the commas all but the last are elements that rise, and the last one is the beginning of an element, or of an element and what ends a text.
func goesOn(bound int, s string) bool {
	rest, ok := strings.CutPrefix(s, "{")
	if !ok {
		return s == ""
	}
	parts := strings.Split(rest, ",")
	least := 0
	for _, p := range parts[:len(parts)-1] {
		i := slices.IndexFunc(upTo(bound), func(i int) bool { return elementText(bound, i) == p })
		if i < least {
			return false
		}
		least = i + 1
	}
	for i := least; i <= bound+1; i++ {
		if strings.HasPrefix(elementText(bound, i)+"}", parts[len(parts)-1]) {
			return true
		}
	}
	return false
}

// placeByWords is the first place at which no text goes on as this one does.
func placeByWords(bound int, s string) int {
	for n := range len(s) {
		if !goesOn(bound, s[:n+1]) {
			return n
		}
	}
	return len(s)
}

// texts are the sets of a small bound by their texts.
func texts(bound int) map[string]api.Counts {
	m := map[string]api.Counts{}
	eachSet(bound, func(c api.Counts) { m[textOf(bound, numbersOf(c)...)] = c })
	return m
}

// What the other tests of places lean on: the beginnings of all texts of small bounds.
func TestGoesOn(t *testing.T) {
	for bound := range 11 {
		beginnings := map[string]int{}
		for s := range texts(bound) {
			for n := range len(s) + 1 {
				beginnings[s[:n]]++
			}
		}
		for s := range beginnings {
			for _, b := range "{},>0123456789x" {
				next := s + string(b)
				if goesOn(bound, next) != (beginnings[next] > 0) {
					t.Fatalf("goesOn(%d, %q) = %v", bound, next, goesOn(bound, next))
				}
			}
		}
	}
}

// eachText goes through all texts of at most so many of the bytes.
func eachText(bytes string, most int, do func(s string)) {
	var grow func(s string)
	grow = func(s string) {
		do(s)
		if len(s) == most {
			return
		}
		for i := range len(bytes) {
			grow(s + bytes[i:i+1])
		}
	}
	grow("")
}

// P8.4, of all short texts.
func TestReadByWords(t *testing.T) {
	for _, bound := range []int{0, 1, 2, 9, 10, 11} {
		sets := texts(bound)
		eachText("{},>0129", 6, func(s string) {
			if c := sets[s]; c != 0 {
				askText(t, bound, c, s)
			} else {
				askFault(t, bound, s, placeByWords(bound, s))
			}
		})
	}
}

// P8.4, of texts of all bounds in which a byte is another one, too many, or wanting.
func TestReadOfSpoiltTexts(t *testing.T) {
	const bytes = "{},>0123456789"
	r := rand.New(rand.NewSource(4))
	for bound := 0; bound <= api.MaxCount; bound++ {
		for range 100 {
			c := someSet(r, bound)
			s := textOf(bound, numbersOf(c)...)
			for range 1 + r.Intn(2) {
				at, b := r.Intn(len(s)), r.Intn(len(bytes))
				s = s[:at] + bytes[b:b+r.Intn(2)] + s[at+r.Intn(2):]
			}
			at := placeByWords(bound, s)
			if at < len(s) || !strings.HasSuffix(s, "}") {
				askFault(t, bound, s, at)
				continue
			}
			got, _, _ := counts.Read(bound, s)
			askText(t, bound, got, s)
		}
	}
}

// What a call answers does not hang on those before it.
func TestAgain(t *testing.T) {
	someTimes(func(bound int, a, b, c api.Counts) {
		first := sum(t, bound, a, b)
		sum(t, bound, b, c)
		union(t, bound, a, c)
		same(t, "Sum again", sum(t, bound, a, b), first)
	})
}
