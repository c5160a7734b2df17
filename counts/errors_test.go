package counts_test

import (
	"math"
	"slices"
	"strings"
	"testing"
	"unsafe"

	"milestone/api"
	"milestone/counts"
)

// notBounds are numbers that are none.
var notBounds = []int{-1, -2, -63, -64, math.MinInt, api.MaxCount + 1, 64, 65, 127, 1 << 20, 1 << 32, math.MaxInt}

// notCompares are numbers that are none.
var notCompares = []int{0, 4, -1, 5, 1 << 32, 1<<32 + 1, math.MaxInt, math.MinInt}

// askNoSet asks all calls that are handed a set for an error, and that all beside it is zero.
func askNoSet(t *testing.T, bound, compare int, c api.Counts, want api.Errno) {
	t.Helper()
	same(t, "Check's error", counts.Check(bound, c), want)
	if l, e := counts.List(bound, c); len(l) != 0 || e != want {
		t.Errorf("List(%d, %b) = %v, %v, want %v", bound, c, l, e, want)
	}
	askNoSum(t, bound, []api.Counts{c}, want)
	askNoUnion(t, bound, []api.Counts{c}, want)
	askNoCompare(t, bound, compare, c, want)
	if s, e := counts.Text(bound, c); s != "" || e != want {
		t.Errorf("Text(%d, %b) = %q, %v, want %v", bound, c, s, e, want)
	}
}

func askNoSum(t *testing.T, bound int, l []api.Counts, want api.Errno) {
	t.Helper()
	if c, e := counts.Sum(bound, l...); c != 0 || e != want {
		t.Errorf("Sum(%d, %b) = %b, %v, want %v", bound, l, c, e, want)
	}
}

func askNoUnion(t *testing.T, bound int, l []api.Counts, want api.Errno) {
	t.Helper()
	if c, e := counts.Union(bound, l...); c != 0 || e != want {
		t.Errorf("Union(%d, %b) = %b, %v, want %v", bound, l, c, e, want)
	}
}

func askNoCompare(t *testing.T, bound, compare int, c api.Counts, want api.Errno) {
	t.Helper()
	if ok, e := counts.Holds(bound, compare, c); ok || e != want {
		t.Errorf("Holds(%d, %d, %b) = %v, %v, want %v", bound, compare, c, ok, e, want)
	}
	if n, breaks, e := counts.Breaks(bound, compare, c); n != 0 || breaks || e != want {
		t.Errorf("Breaks(%d, %d, %b) = %d, %v, %v, want %v", bound, compare, c, n, breaks, e, want)
	}
}

// ErrArg comes ahead of all.
func TestNoBound(t *testing.T) {
	for _, bound := range notBounds {
		for _, c := range []api.Counts{0, 1, 15, 1 << 63, everything} {
			for _, compare := range append([]int{api.Equal, api.Most, api.Least}, notCompares...) {
				askNoSet(t, bound, compare, c, api.ErrArg)
			}
		}
		for _, l := range [][]int{nil, {}, {0}, {-1}, {1, 2}, {math.MaxInt}, {math.MinInt}} {
			askNoOf(t, bound, l, api.ErrArg)
		}
		same(t, "Check's error", counts.Check(bound), api.ErrArg)
		askNoSum(t, bound, nil, api.ErrArg)
		askNoUnion(t, bound, nil, api.ErrArg)
		for _, s := range []string{"", "{", "{0}", "{0,", "x", "{0} ", "{>63}", "{>-1}", "{-1}"} {
			askNoRead(t, bound, s, 0, api.ErrArg)
		}
	}
}

// ErrCounts comes ahead of ErrCompare.
func TestNoSet(t *testing.T) {
	for _, bound := range someBounds {
		not := []api.Counts{0}
		for i := bound + 2; i < 64; i++ {
			not = append(not, setOf(i), setOf(0, i), setOf(append(upTo(bound), i)...))
		}
		for _, c := range not {
			for _, compare := range append([]int{api.Equal, api.Most, api.Least}, notCompares...) {
				askNoSet(t, bound, compare, c, api.ErrCounts)
			}
			for _, l := range [][]api.Counts{{c, 1}, {1, c}, {1, 3, c}, {c, c}, {1, c, 2}} {
				same(t, "Check's error", counts.Check(bound, l...), api.ErrCounts)
				askNoSum(t, bound, l, api.ErrCounts)
				askNoUnion(t, bound, l, api.ErrCounts)
			}
		}
	}
}

// P8.1
func TestNoNumbers(t *testing.T) {
	for _, bound := range someBounds {
		askNoOf(t, bound, nil, api.ErrCounts)
		askNoOf(t, bound, []int{}, api.ErrCounts)
		for _, n := range []int{-1, -2, -64, math.MinInt, math.MinInt + 1, -1 << 32} {
			for _, l := range [][]int{{n}, {0, n}, {n, 0}, {0, n, 1}, {math.MaxInt, n}, {n, n}} {
				askNoOf(t, bound, l, api.ErrRange)
			}
		}
	}
}

// P8.2
func TestUnionOfNone(t *testing.T) {
	for _, bound := range someBounds {
		askNoUnion(t, bound, nil, api.ErrCounts)
		askNoUnion(t, bound, []api.Counts{}, api.ErrCounts)
	}
}

// P8.3
func TestNoCompare(t *testing.T) {
	for _, bound := range someBounds {
		for _, compare := range notCompares {
			for i := range bound + 2 {
				askNoCompare(t, bound, compare, setOf(i), api.ErrCompare)
			}
			askNoCompare(t, bound, compare, setOf(upTo(bound)...), api.ErrCompare)
		}
	}
}

// P8.4

func TestTextsThatEndTooEarly(t *testing.T) {
	for _, bound := range someBounds {
		s := textOf(bound, upTo(bound)...)
		for n := range len(s) {
			askFault(t, bound, s[:n], n)
		}
	}
	askFault(t, 2, "", 0)
	askFault(t, 2, "{", 1)
	askFault(t, 2, "{0", 2)
	askFault(t, 2, "{0,", 3)
	askFault(t, 2, "{0,>", 4)
	askFault(t, 2, "{0,>2", 5)
	askFault(t, 62, "{>6", 3)
	askFault(t, 62, "{1,1", 4) // 10 to 19 go on so
	askFault(t, 62, "{7,6", 4)
}

func TestElementsThatDoNotRise(t *testing.T) {
	askFault(t, 2, "{1,1}", 3)
	askFault(t, 2, "{1,0}", 3)
	askFault(t, 2, "{2,1}", 3)
	askFault(t, 2, "{0,2,1}", 5)
	askFault(t, 2, "{0,2,2}", 5)
	askFault(t, 2, "{>2,>2}", 3)
	askFault(t, 2, "{>2,0}", 3)
	askFault(t, 15, "{1,1}", 4) // where 10 could still come
	askFault(t, 15, "{1,1,2}", 4)
	askFault(t, 15, "{10,1}", 5)
	askFault(t, 15, "{10,10}", 5)
	askFault(t, 15, "{15,1}", 4)
	askFault(t, 15, "{12,11}", 5)
	askFault(t, 15, "{12,9}", 4)
	askFault(t, 15, "{2,10,3}", 6)
	askFault(t, 62, "{19,1}", 4)
	askFault(t, 62, "{62,62}", 4)
	askFault(t, 62, "{61,62,61}", 7)
	askFault(t, 62, "{61,61}", 5)
	askFault(t, 62, "{60,6}", 5)
	askFault(t, 62, "{6,6}", 4)
	askFault(t, 62, "{6,5}", 4) // where 50 could still come
	askFault(t, 62, "{60,5}", 4)
}

func TestElementsAboveTheBound(t *testing.T) {
	askFault(t, 2, "{3}", 1)
	askFault(t, 2, "{0,3}", 3)
	askFault(t, 2, "{99}", 1)
	askFault(t, 2, "{20}", 2)
	askFault(t, 0, "{1}", 1)
	askFault(t, 0, "{0,1}", 3)
	askFault(t, 9, "{10}", 2)
	askFault(t, 12, "{13}", 2)
	askFault(t, 12, "{120}", 3)
	askFault(t, 62, "{63}", 2)
	askFault(t, 62, "{64}", 2)
	askFault(t, 62, "{70}", 2)
	askFault(t, 62, "{620}", 3)
	askFault(t, 62, "{1"+strings.Repeat("0", 100)+"}", 3)
	askFault(t, 62, "{18446744073709551616}", 3)
}

func TestSignWithAnotherNumber(t *testing.T) {
	askFault(t, 2, "{>1}", 2)
	askFault(t, 2, "{>3}", 2)
	askFault(t, 2, "{>}", 2)
	askFault(t, 2, "{>>2}", 2)
	askFault(t, 2, "{>22}", 3)
	askFault(t, 2, "{>02}", 2)
	askFault(t, 2, "{> 2}", 2)
	askFault(t, 2, "{>2>2}", 3)
	askFault(t, 2, "{0>2}", 2)
	askFault(t, 2, "{>2", 3)
	askFault(t, 2, "{>=3}", 2)
	askFault(t, 62, "{>6}", 3)
	askFault(t, 62, "{>61}", 3)
	askFault(t, 62, "{>63}", 3)
	askFault(t, 62, "{>62,", 4)
	askFault(t, 62, "{>620}", 4)
	askFault(t, 61, "{>62}", 3)
}

func TestZeroAhead(t *testing.T) {
	askFault(t, 2, "{00}", 2)
	askFault(t, 2, "{01}", 2)
	askFault(t, 2, "{0,01}", 3)
	askFault(t, 2, "{1,02}", 3)
	askFault(t, 62, "{05}", 2)
	askFault(t, 62, "{010}", 2)
	askFault(t, 62, "{5,06}", 3)
}

func TestSigns(t *testing.T) {
	askFault(t, 2, "{}", 1)
	askFault(t, 2, "{,0}", 1)
	askFault(t, 2, "{,}", 1)
	askFault(t, 2, "{0,}", 3)
	askFault(t, 2, "{0,,1}", 3)
	askFault(t, 2, "{0,1,}", 5)
	askFault(t, 2, "{0,>2,}", 5)
	askFault(t, 2, "{>2,}", 3)
	askFault(t, 2, "{2,}", 3)
	askFault(t, 2, "{0;1}", 2)
	askFault(t, 2, "{0.1}", 2)
	askFault(t, 2, "{{0}}", 1)
	askFault(t, 2, "(0)", 0)
	askFault(t, 2, "0", 0)
	askFault(t, 2, "}", 0)
	askFault(t, 2, "{-1}", 1)
	askFault(t, 2, "{+1}", 1)
	askFault(t, 2, "{-0}", 1)
	askFault(t, 2, "{1e0}", 2)
	askFault(t, 2, "{0x1}", 2)
	askFault(t, 2, "{1_}", 2)
}

func TestBlanks(t *testing.T) {
	for _, blank := range []string{" ", "\t", "\n", "\r", "\x00", "\u00a0"} {
		askFault(t, 2, blank, 0)
		askFault(t, 2, blank+"{0,>2}", 0)
		askFault(t, 2, "{"+blank+"0,>2}", 1)
		askFault(t, 2, "{0"+blank+",>2}", 2)
		askFault(t, 2, "{0,"+blank+">2}", 3)
		askFault(t, 2, "{0,>"+blank+"2}", 4)
		askFault(t, 2, "{0,>2"+blank+"}", 5)
		askFault(t, 2, "{0,>2}"+blank, 6)
	}
}

func TestBehindTheEnd(t *testing.T) {
	for b := range 256 {
		behind := string([]byte{byte(b)})
		askFault(t, 2, "{2}"+behind, 3)
		askFault(t, 2, "{0,>2}"+behind, 6)
		askFault(t, 62, "{>62}"+behind, 5)
	}
	askFault(t, 2, "{0}{1}", 3)
	askFault(t, 2, "{0}}", 3)
	askFault(t, 2, "{0},", 3)
	askFault(t, 2, "{0}"+strings.Repeat("x", api.MaxText), 3)
}

// Each byte at each place of a text.
func TestEachByte(t *testing.T) {
	const s = "{1,10,>12}"
	goesOn := []string{"{", "0123456789>", ",012}", "23456789>1", "012", ",}", ">1", "1", "2", "}"}
	for at := range len(s) {
		for b := range 256 {
			text := s[:at] + string([]byte{byte(b)})
			if strings.IndexByte(goesOn[at], byte(b)) < 0 {
				askFault(t, 12, text, at)
				askFault(t, 12, text+s[at+1:], at)
			} else if b != '}' {
				askFault(t, 12, text, len(text))
			}
		}
	}
}

// Long texts are refused at their first fault.
func TestLongTexts(t *testing.T) {
	askFault(t, 2, strings.Repeat("{", 4*api.MaxText), 1)
	askFault(t, 62, "{"+strings.Repeat("0,", 2*api.MaxText)+"0}", 3)
	askFault(t, 62, "{"+strings.Repeat("6", 4*api.MaxText), 2)
	askFault(t, 62, strings.Repeat("\xff", 4*api.MaxText), 0)
}

// Rule 4

func TestNothingChanged(t *testing.T) {
	numbers := []int{5, 0, 99, 2, 77, 88}
	wantNumbers := slices.Clone(numbers)
	counts.Of(3, numbers[:4]...)
	same(t, "the numbers are as they were", slices.Equal(numbers, wantNumbers), true)
	sets := []api.Counts{9, 3, 1, 15, 7, 5}
	wantSets := slices.Clone(sets)
	counts.Check(2, sets[:4]...)
	counts.Sum(2, sets[:4]...)
	counts.Union(2, sets[:4]...)
	same(t, "the sets are as they were", slices.Equal(sets, wantSets), true)
}

func TestNothingKept(t *testing.T) {
	l, _ := counts.List(2, 15)
	other, _ := counts.List(2, 15)
	for i := range l {
		l[i] = 77
	}
	_ = append(l[:0], 78, 79)
	same(t, "another answer is as it was", slices.Equal(other, []int{0, 1, 2, 3}), true)
	askList(t, 2, 15, 0, 1, 2, 3)

	numbers := []int{0, 1}
	c, _ := counts.Of(2, numbers...)
	sets := []api.Counts{c, 2}
	sum, _ := counts.Sum(2, sets...)
	union, _ := counts.Union(2, sets...)
	numbers[0], sets[0], sets[1] = 2, 8, 8
	same(t, "Of", c, setOf(0, 1))
	same(t, "Sum", sum, setOf(1, 2))
	same(t, "Union", union, setOf(0, 1))
}

// lies tells whether a text's first byte is one of another's, in memory.
func lies(part, whole string) bool {
	at, from := uintptr(unsafe.Pointer(unsafe.StringData(part))), uintptr(unsafe.Pointer(unsafe.StringData(whole)))
	return from <= at && at < from+uintptr(len(whole))
}

func TestTextsAreNewMemory(t *testing.T) {
	for _, c := range []api.Counts{1, 8, 15} {
		a, _ := counts.Text(2, c)
		b, _ := counts.Text(2, c)
		same(t, "two texts share memory", lies(a, b) || lies(b, a), false)
	}
}

// A refused call leaves no trace in the next one.
func TestAfterError(t *testing.T) {
	counts.Read(2, "{0,1")
	counts.Read(63, "{0}")
	counts.Sum(2, 8, 16)
	counts.Of(2, 1, -1)
	askText(t, 2, 4, "{2}")
	askSum(t, 2, []api.Counts{1}, 1)
	askOf(t, 2, []int{2}, 4)
	askFault(t, 2, "{0", 2)
}
