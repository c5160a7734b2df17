package counts

import "milestone/api"

// reader reads a set's text. At a fault it panics, and its place is the fault's.
type reader struct {
	bound
	s  string
	at int // the first byte that is not read yet
}

// set is the one whose text this is.
func (r *reader) set() api.Counts {
	r.must('{')
	var c api.Counts
	left := r.all() // those that may still come
	for more := true; more; more = left != 0 && r.takes(',') {
		i := r.element(left)
		c |= alone(i)
		left &^= below(i + 1)
	}
	r.must('}')
	r.end()
	return c
}

// takes tells whether a sign stands here, and goes on behind it.
func (r *reader) takes(sign byte) bool {
	if r.at == len(r.s) || r.s[r.at] != sign {
		return false
	}
	r.at++
	return true
}

func (r *reader) must(sign byte) {
	if !r.takes(sign) {
		panic(api.ErrText)
	}
}

func (r *reader) end() {
	if r.at < len(r.s) {
		panic(api.ErrText)
	}
}

// element is the one of some whose text stands here: the longest, since 1 begins 12, too. If none stands here whole, the fault is where the last of them parts from what is there.
func (r *reader) element(some api.Counts) int {
	found, far := -1, 0
	for i := range r.elements(some) {
		text := r.text(i)
		n := alike(text, r.s[r.at:])
		if n > far {
			found, far = -1, n
		}
		if n == far && n == len(text) {
			found = i
		}
	}
	r.at += far
	if found < 0 {
		panic(api.ErrText)
	}
	return found
}

// alike is how many bytes two texts have in common from their beginnings on.
func alike(a, b string) int {
	n := 0
	for n < min(len(a), len(b)) && a[n] == b[n] {
		n++
	}
	return n
}
