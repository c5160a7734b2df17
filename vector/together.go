package vector

import (
	"iter"

	"milestone/api"
)

// together goes through two rising rows at once: at each step it tells of either row the one thing that stands there, or none.
func together[T any](a, b []T, compare func(a, b T) int) iter.Seq2[[]T, []T] {
	return func(yield func(a, b []T) bool) {
		for len(a) > 0 || len(b) > 0 {
			fromA, fromB := next(a, b, compare)
			if !yield(a[:fromA], b[:fromB]) {
				return
			}
			a, b = a[fromA:], b[fromB:]
		}
	}
}

// next is how many things of either row stand ahead of all others.
func next[T any](a, b []T, compare func(a, b T) int) (fromA, fromB int) {
	if len(a) == 0 {
		return 0, 1
	}
	if len(b) == 0 {
		return 1, 0
	}
	order := compare(a[0], b[0])
	if order <= 0 {
		fromA = 1
	}
	if order >= 0 {
		fromB = 1
	}
	return fromA, fromB
}

// gathered is of each device of any vector its greatest version; and whether there is no other one of it. Vectors are put together half by half, so that many small ones are not each held against all devices.
func gathered(l []api.Vector) (all api.Vector, agree bool) {
	switch len(l) {
	case 0:
		return nil, true
	case 1:
		return copyOf(l[0]), true
	}
	half := len(l) / 2
	a, agreeA := gathered(l[:half])
	b, agreeB := gathered(l[half:])
	all, agree = greatest(a, b)
	return all, agree && agreeA && agreeB
}

// greatest are the greatest versions of two vectors; and whether the two agree.
func greatest(a, b api.Vector) (all api.Vector, agree bool) {
	agree = true
	for left, right := range together(a, b, byDevice) {
		switch {
		case len(right) == 0:
			all = append(all, left[0])
		case len(left) == 0 || left[0].Version < right[0].Version:
			all = append(all, right[0])
		default:
			all = append(all, left[0])
		}
		agree = agree && (len(left) == 0 || len(right) == 0 || left[0] == right[0])
	}
	return all, agree
}
