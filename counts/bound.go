package counts

import (
	"iter"
	"strconv"

	"milestone/api"
)

// bound is up to which number copies are told apart: all that are more are one element. It is from 0 to MaxCount, which the face asks first.
type bound int

// more is the element that stands for all numbers above the bound.
func (t bound) more() int { return int(t) + 1 }

// cut is the element that stands for a number.
func (t bound) cut(n int) int { return min(n, t.more()) }

// alone is the set of one element.
func alone(i int) api.Counts { return 1 << i }

// below is the set of all elements below one. (Of 64 the shift leaves 0, and all bits are set.)
func below(i int) api.Counts { return alone(i) - 1 }

// all is the set of all elements.
func (t bound) all() api.Counts { return below(t.more() + 1) }

// elements are those of a set, rising.
func (t bound) elements(c api.Counts) iter.Seq[int] {
	return func(yield func(int) bool) {
		for i := range t.more() + 1 {
			if c&alone(i) != 0 && !yield(i) {
				return
			}
		}
	}
}

// sums are those of one element of each of two sets.
func (t bound) sums(a, b api.Counts) api.Counts {
	var c api.Counts
	for i := range t.elements(b) {
		c |= t.add(a, i)
	}
	return c
}

// add is a set with an element added to each of its own. All at once, by shifts: what would come to more than the bound could be shifted out of the word, so it is asked of ahead.
func (t bound) add(c api.Counts, i int) api.Counts {
	sum := c << i & below(t.more())
	if c>>(t.more()-i) != 0 {
		sum |= alone(t.more())
	}
	return sum
}

// holds tells whether a compare holds of an element.
func (t bound) holds(compare, i int) bool {
	switch compare {
	case api.Equal:
		return i == int(t)
	case api.Most:
		return i <= int(t)
	default:
		return i >= int(t)
	}
}

// text is an element's.
func (t bound) text(i int) string {
	if i == t.more() {
		return ">" + strconv.Itoa(int(t))
	}
	return strconv.Itoa(i)
}
