package counts_test

import (
	"math"
	"slices"
	"testing"

	"milestone/api"
	"milestone/counts"
)

// everything is the set of all elements of MaxCount.
const everything = api.Counts(math.MaxUint64)

// someBounds are the edges, and some between.
var someBounds = []int{0, 1, 2, 9, 10, 11, 31, 61, 62}

// Words: which sets may be.

func TestCheck(t *testing.T) {
	for bound := 0; bound <= api.MaxCount; bound++ {
		same(t, "Check of no sets", counts.Check(bound), api.OK)
		same(t, "Check of all elements", counts.Check(bound, setOf(upTo(bound)...)), api.OK)
		for i := 0; i < 64; i++ {
			want := api.OK
			if i > bound+1 {
				want = api.ErrCounts
			}
			same(t, "Check of one element", counts.Check(bound, setOf(i)), want)
			same(t, "Check of it beside 0", counts.Check(bound, setOf(0, i)), want)
			same(t, "Check of it behind others", counts.Check(bound, 1, 3, setOf(i)), want)
			same(t, "Check of it ahead of others", counts.Check(bound, setOf(i), 1, 3), want)
		}
	}
	same(t, "Check of all bits", counts.Check(62, everything), api.OK)
	same(t, "Check of all bits", counts.Check(61, everything), api.ErrCounts)
	same(t, "Check of all bits but the last", counts.Check(61, everything>>1), api.OK)
	same(t, "Check of many", counts.Check(2, slices.Repeat([]api.Counts{15}, 10000)...), api.OK)
}

// P8.1

func TestOf(t *testing.T) {
	askOf(t, 2, []int{0}, 1)
	askOf(t, 2, []int{0, 1}, 3)
	askOf(t, 2, []int{1, 0}, 3)
	askOf(t, 2, []int{2, 2, 0, 2}, 5)
	askOf(t, 5, []int{3}, 8)
	askOf(t, 5, []int{5, 0, 3}, 41)
	askOf(t, 2, upTo(2), 15)
	askOf(t, 62, upTo(62), everything)
	askOf(t, 2, slices.Repeat([]int{1, 2}, 5000), 6)
}

func TestOfCuts(t *testing.T) {
	for _, bound := range someBounds {
		top := setOf(bound + 1)
		askOf(t, bound, []int{bound}, setOf(bound))
		for _, n := range []int{bound + 1, bound + 2, 63, 64, 65, 127, 128, 1 << 20, 1 << 32, 1 << 62, math.MaxInt - 1, math.MaxInt} {
			if n <= bound {
				continue
			}
			askOf(t, bound, []int{n}, top)
			askOf(t, bound, []int{n, bound + 1}, top)
			askOf(t, bound, []int{n, 0, n}, setOf(0, bound+1))
		}
	}
	askOf(t, 0, []int{0}, 1)
	askOf(t, 0, []int{1}, 2)
	askOf(t, 0, []int{2}, 2)
	askOf(t, 0, []int{0, 2}, 3)
	askOf(t, 2, []int{99}, 8)
	askOf(t, 62, []int{63}, 1<<63)
	askOf(t, 62, []int{64}, 1<<63)
	askOf(t, 62, []int{62}, 1<<62)
	askOf(t, 61, []int{63}, 1<<62)
}

func TestList(t *testing.T) {
	askList(t, 2, 1, 0)
	askList(t, 2, 9, 0, 3)
	askList(t, 2, 15, 0, 1, 2, 3)
	askList(t, 0, 1, 0)
	askList(t, 0, 2, 1)
	askList(t, 0, 3, 0, 1)
	askList(t, 62, 1<<63, 63)
	askList(t, 62, everything, upTo(62)...)
	for _, bound := range someBounds {
		for i := range bound + 2 {
			askList(t, bound, setOf(i), i)
		}
		askList(t, bound, setOf(upTo(bound)...), upTo(bound)...)
	}
}

// P8.2

func TestSum(t *testing.T) {
	askSum(t, 2, []api.Counts{setOf(0, 1), setOf(1, 2)}, setOf(1, 2, 3))
	askSum(t, 5, []api.Counts{setOf(1), setOf(2)}, setOf(3))
	askSum(t, 5, []api.Counts{setOf(0, 2), setOf(0, 3)}, setOf(0, 2, 3, 5))
	askSum(t, 5, []api.Counts{setOf(0, 3), setOf(0, 3)}, setOf(0, 3, 6))
	askSum(t, 9, []api.Counts{setOf(1, 2), setOf(1, 4), setOf(0, 3)}, setOf(2, 3, 5, 6, 8, 9))
	askSum(t, 8, []api.Counts{setOf(1, 2), setOf(1, 4), setOf(0, 3)}, setOf(2, 3, 5, 6, 8, 9))
	askSum(t, 7, []api.Counts{setOf(1, 2), setOf(1, 4), setOf(0, 3)}, setOf(2, 3, 5, 6, 8))
	askSum(t, 0, []api.Counts{1, 1}, 1)
	askSum(t, 0, []api.Counts{3, 1}, 3)
	askSum(t, 0, []api.Counts{2, 2}, 2)
	askSum(t, 0, []api.Counts{2, 3}, 2)
}

func TestSumOfNoneAndOne(t *testing.T) {
	for _, bound := range someBounds {
		askSum(t, bound, nil, 1)
		askSum(t, bound, []api.Counts{}, 1)
		for i := range bound + 2 {
			askSum(t, bound, []api.Counts{setOf(i)}, setOf(i))
			askSum(t, bound, []api.Counts{setOf(0, i)}, setOf(0, i))
		}
		askSum(t, bound, []api.Counts{setOf(upTo(bound)...)}, setOf(upTo(bound)...))
	}
}

// Each pair of elements of each bound: where the sum is cut, and where it is not.
func TestSumOfTwoElements(t *testing.T) {
	for bound := 0; bound <= api.MaxCount; bound++ {
		for a := range bound + 2 {
			for b := range bound + 2 {
				askSum(t, bound, []api.Counts{setOf(a), setOf(b)}, setOf(min(a+b, bound+1)))
			}
		}
	}
}

func TestSumOfMany(t *testing.T) {
	askSum(t, 62, slices.Repeat([]api.Counts{setOf(0, 1)}, 61), everything>>2)
	askSum(t, 62, slices.Repeat([]api.Counts{setOf(0, 1)}, 62), everything>>1)
	askSum(t, 62, slices.Repeat([]api.Counts{setOf(0, 1)}, 63), everything)
	askSum(t, 62, slices.Repeat([]api.Counts{setOf(0, 1)}, 10000), everything)
	askSum(t, 62, slices.Repeat([]api.Counts{1}, 10000), 1)
	askSum(t, 62, slices.Repeat([]api.Counts{2}, 62), setOf(62))
	askSum(t, 62, slices.Repeat([]api.Counts{2}, 10000), setOf(63))
	askSum(t, 61, slices.Repeat([]api.Counts{setOf(2)}, 30), setOf(60))
	askSum(t, 61, slices.Repeat([]api.Counts{setOf(2)}, 31), setOf(62))
	askSum(t, 62, []api.Counts{everything, everything, everything}, everything)
	askSum(t, 62, []api.Counts{1 << 63, 1 << 63}, 1<<63)
	askSum(t, 62, []api.Counts{1 << 63, everything}, 1<<63)
	askSum(t, 62, []api.Counts{setOf(1), everything}, everything-1)
	askSum(t, 62, []api.Counts{setOf(31, 32), setOf(31, 32)}, setOf(62, 63))
	askSum(t, 62, []api.Counts{setOf(31), setOf(31)}, setOf(62))
}

func TestUnion(t *testing.T) {
	askUnion(t, 2, []api.Counts{setOf(0, 1), setOf(1, 2)}, setOf(0, 1, 2))
	askUnion(t, 2, []api.Counts{setOf(0), setOf(3)}, setOf(0, 3))
	askUnion(t, 2, []api.Counts{setOf(1), setOf(1)}, setOf(1))
	askUnion(t, 2, []api.Counts{1, 2, 4, 8}, 15)
	askUnion(t, 0, []api.Counts{1, 2}, 3)
	askUnion(t, 62, []api.Counts{1, 1 << 63}, 1<<63+1)
	askUnion(t, 62, []api.Counts{everything >> 1, 1 << 63}, everything)
	for _, bound := range someBounds {
		var each []api.Counts
		for i := range bound + 2 {
			askUnion(t, bound, []api.Counts{setOf(i)}, setOf(i))
			each = append(each, setOf(i))
		}
		askUnion(t, bound, each, setOf(upTo(bound)...))
		askUnion(t, bound, slices.Repeat(each, 100), setOf(upTo(bound)...))
	}
}

// P8.3

func TestEqual(t *testing.T) {
	askHolds(t, 2, api.Equal, 2)
	askBreaks(t, 2, api.Equal, 1, 1)
	askBreaks(t, 2, api.Equal, 1, 1, 2)
	askBreaks(t, 2, api.Equal, 0, 0, 1, 2, 3)
	askBreaks(t, 2, api.Equal, 3, 2, 3)
	askBreaks(t, 2, api.Equal, 3, 3)
	askHolds(t, 0, api.Equal, 0)
	askBreaks(t, 0, api.Equal, 1, 1)
	askBreaks(t, 0, api.Equal, 1, 0, 1)
	askHolds(t, 62, api.Equal, 62)
	askBreaks(t, 62, api.Equal, 63, 62, 63)
	askBreaks(t, 62, api.Equal, 61, 61, 62)
}

func TestMost(t *testing.T) {
	askHolds(t, 2, api.Most, 2)
	askHolds(t, 2, api.Most, 0)
	askHolds(t, 2, api.Most, 0, 1, 2)
	askBreaks(t, 2, api.Most, 3, 0, 1, 2, 3)
	askBreaks(t, 2, api.Most, 3, 3)
	askHolds(t, 0, api.Most, 0)
	askBreaks(t, 0, api.Most, 1, 0, 1)
	askBreaks(t, 0, api.Most, 1, 1)
	askHolds(t, 62, api.Most, upTo(61)...)
	askBreaks(t, 62, api.Most, 63, upTo(62)...)
}

func TestLeast(t *testing.T) {
	askHolds(t, 2, api.Least, 2)
	askHolds(t, 2, api.Least, 3)
	askHolds(t, 2, api.Least, 2, 3)
	askBreaks(t, 2, api.Least, 1, 1, 2, 3)
	askBreaks(t, 2, api.Least, 0, 0, 3)
	askBreaks(t, 2, api.Least, 0, 0, 1)
	askHolds(t, 0, api.Least, 0)
	askHolds(t, 0, api.Least, 1)
	askHolds(t, 0, api.Least, 0, 1)
	askHolds(t, 62, api.Least, 62, 63)
	askBreaks(t, 62, api.Least, 61, 61, 62, 63)
}

// Each element of each bound alone.
func TestComparesOfOneElement(t *testing.T) {
	for bound := 0; bound <= api.MaxCount; bound++ {
		for compare := api.Equal; compare <= api.Least; compare++ {
			for i := range bound + 2 {
				if holdsByWords(bound, compare, i) {
					askHolds(t, bound, compare, i)
				} else {
					askBreaks(t, bound, compare, i, i)
				}
			}
		}
	}
}

// P8.4

func TestText(t *testing.T) {
	askText(t, 2, setOf(0, 3), "{0,>2}")
	askText(t, 2, 1, "{0}")
	askText(t, 2, 4, "{2}")
	askText(t, 2, 8, "{>2}")
	askText(t, 2, 15, "{0,1,2,>2}")
	askText(t, 0, 1, "{0}")
	askText(t, 0, 2, "{>0}")
	askText(t, 0, 3, "{0,>0}")
	askText(t, 1, 7, "{0,1,>1}")
	askText(t, 12, setOf(1, 10, 12, 13), "{1,10,12,>12}")
	askText(t, 12, setOf(1, 11), "{1,11}")
	askText(t, 62, setOf(6, 60, 61, 62, 63), "{6,60,61,62,>62}")
	askText(t, 62, setOf(63), "{>62}")
	askText(t, 61, setOf(61, 62), "{61,>61}")
	for _, bound := range someBounds {
		for i := range bound + 2 {
			askText(t, bound, setOf(i), textOf(bound, i))
		}
		askText(t, bound, setOf(upTo(bound)...), textOf(bound, upTo(bound)...))
	}
}

// The document's example.
func TestExample(t *testing.T) {
	askSum(t, 2, []api.Counts{setOf(0, 1), setOf(1, 2)}, setOf(1, 2, 3))
	askBreaks(t, 2, api.Least, 1, 1, 2, 3)
	askText(t, 2, setOf(0, 3), "{0,>2}")
	askFault(t, 2, "{1,1}", 3)
	askFault(t, 2, "{0,", 3)
}
