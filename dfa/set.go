package dfa

import "iter"

// set is places of an expression by their numbers, a bit of each, so that its bytes are a text that no other set has. All sets of one expression have as many bytes.
type set []byte

func (s set) put(place int) { s[place/8] |= 1 << (place % 8) }

func (s set) has(place int) bool { return s[place/8]>>(place%8)&1 == 1 }

// join puts in all places of another one.
func (s set) join(other set) {
	for i, b := range other {
		s[i] |= b
	}
}

// common is the places that two have.
func (s set) common(other set) set {
	both := make(set, len(s))
	for i, b := range other {
		both[i] = s[i] & b
	}
	return both
}

func (s set) empty() bool {
	for _, b := range s {
		if b != 0 {
			return false
		}
	}
	return true
}

// places are those of the set, rising.
func (s set) places() iter.Seq[int] {
	return func(yield func(int) bool) {
		for place := range 8 * len(s) {
			if s.has(place) && !yield(place) {
				return
			}
		}
	}
}
