package counts_test

import (
	"slices"
	"strconv"
	"strings"
	"testing"

	"milestone/api"
	"milestone/counts"
)

func same(t *testing.T, what string, got, want any) {
	t.Helper()
	if got != want {
		t.Errorf("%s = %v, want %v", what, got, want)
	}
}

// The sets of the tests' own are lists of numbers, and what is asked of them is worked out number by number.

// setOf is the set of elements, bit by bit.
func setOf(l ...int) api.Counts {
	var c api.Counts
	for _, i := range l {
		c |= api.Counts(1) << uint(i)
	}
	return c
}

// numbersOf are the numbers of a set's bits, rising.
func numbersOf(c api.Counts) []int {
	var l []int
	for i := 0; i < 64; i++ {
		if c>>uint(i)%2 == 1 {
			l = append(l, i)
		}
	}
	return l
}

// upTo are all elements of a bound.
func upTo(bound int) []int {
	var l []int
	for i := 0; i <= bound+1; i++ {
		l = append(l, i)
	}
	return l
}

// eachSet goes through all sets of a small bound.
func eachSet(bound int, do func(c api.Counts)) {
	for c := 1; c < 1<<(bound+2); c++ {
		do(api.Counts(c))
	}
}

// sumsByNumbers are all sums of a number of each list, cut.
func sumsByNumbers(bound int, l ...[]int) []int {
	sums := []int{0}
	for _, numbers := range l {
		var next []int
		for _, a := range sums {
			for _, b := range numbers {
				sum := a + b
				if sum > bound+1 {
					sum = bound + 1
				}
				next = append(next, sum)
			}
		}
		slices.Sort(next)
		sums = slices.Compact(next)
	}
	return sums
}

// holdsByWords tells whether a compare holds of an element.
func holdsByWords(bound, compare, i int) bool {
	return compare == api.Equal && i == bound || compare == api.Most && i <= bound || compare == api.Least && (i == bound || i == bound+1)
}

// elementText is an element's text.
func elementText(bound, i int) string {
	if i > bound {
		return ">" + strconv.Itoa(bound)
	}
	return strconv.Itoa(i)
}

// textOf is the text of elements.
func textOf(bound int, l ...int) string {
	var parts []string
	for _, i := range l {
		parts = append(parts, elementText(bound, i))
	}
	return "{" + strings.Join(parts, ",") + "}"
}

// askOf asks for the set of numbers.
func askOf(t *testing.T, bound int, l []int, want api.Counts) {
	t.Helper()
	if c, e := counts.Of(bound, l...); c != want || e != api.OK {
		t.Errorf("Of(%d, %v) = %b, %v, want %b", bound, l, c, e, want)
	}
}

// askNoOf asks for an error with no set beside it.
func askNoOf(t *testing.T, bound int, l []int, want api.Errno) {
	t.Helper()
	if c, e := counts.Of(bound, l...); c != 0 || e != want {
		t.Errorf("Of(%d, %v) = %b, %v, want %v", bound, l, c, e, want)
	}
}

// askList asks for a set's elements.
func askList(t *testing.T, bound int, c api.Counts, want ...int) {
	t.Helper()
	if l, e := counts.List(bound, c); !slices.Equal(l, want) || e != api.OK {
		t.Errorf("List(%d, %b) = %v, %v, want %v", bound, c, l, e, want)
	}
}

// askSum asks for all sums.
func askSum(t *testing.T, bound int, l []api.Counts, want api.Counts) {
	t.Helper()
	if c, e := counts.Sum(bound, l...); c != want || e != api.OK {
		t.Errorf("Sum(%d, %b) = %b, %v, want %b", bound, l, c, e, want)
	}
}

// askUnion asks for all elements.
func askUnion(t *testing.T, bound int, l []api.Counts, want api.Counts) {
	t.Helper()
	if c, e := counts.Union(bound, l...); c != want || e != api.OK {
		t.Errorf("Union(%d, %b) = %b, %v, want %b", bound, l, c, e, want)
	}
}

// askHolds asks Holds and Breaks of a set of which a compare holds.
func askHolds(t *testing.T, bound, compare int, l ...int) {
	t.Helper()
	c := setOf(l...)
	if ok, e := counts.Holds(bound, compare, c); !ok || e != api.OK {
		t.Errorf("Holds(%d, %d, %v) = %v, %v, want true", bound, compare, l, ok, e)
	}
	if n, breaks, e := counts.Breaks(bound, compare, c); n != 0 || breaks || e != api.OK {
		t.Errorf("Breaks(%d, %d, %v) = %d, %v, %v, want 0, false", bound, compare, l, n, breaks, e)
	}
}

// askBreaks asks Holds and Breaks of a set of which a compare does not hold.
func askBreaks(t *testing.T, bound, compare, want int, l ...int) {
	t.Helper()
	c := setOf(l...)
	if ok, e := counts.Holds(bound, compare, c); ok || e != api.OK {
		t.Errorf("Holds(%d, %d, %v) = %v, %v, want false", bound, compare, l, ok, e)
	}
	if n, breaks, e := counts.Breaks(bound, compare, c); n != want || !breaks || e != api.OK {
		t.Errorf("Breaks(%d, %d, %v) = %d, %v, %v, want %d, true", bound, compare, l, n, breaks, e, want)
	}
}

// askText asks for a set's text, and for the set of that text.
func askText(t *testing.T, bound int, c api.Counts, want string) {
	t.Helper()
	if s, e := counts.Text(bound, c); s != want || e != api.OK {
		t.Errorf("Text(%d, %b) = %q, %v, want %q", bound, c, s, e, want)
	}
	if got, at, e := counts.Read(bound, want); got != c || at != 0 || e != api.OK {
		t.Errorf("Read(%d, %q) = %b, %d, %v, want %b", bound, want, got, at, e, c)
	}
}

// askFault asks for a text that is none, with its place.
func askFault(t *testing.T, bound int, s string, at int) {
	t.Helper()
	askNoRead(t, bound, s, at, api.ErrText)
}

// askNoRead asks for an error at its place, and that no set is beside it.
func askNoRead(t *testing.T, bound int, s string, at int, want api.Errno) {
	t.Helper()
	if c, got, e := counts.Read(bound, s); c != 0 || got != at || e != want {
		t.Errorf("Read(%d, %.80q) = %b, %d, %v, want %v at %d", bound, s, c, got, e, want, at)
	}
}
