package classes

import (
	"milestone/api"
	"milestone/bdd"
)

// no and yes are the sets of no header and of all, in every table.
const (
	no  api.Ref = 0
	yes api.Ref = 1
)

// sheet is a table of its own, for what only comes up on the way: a call's table, from which nothing may be let go, is told its answers alone.
type sheet struct {
	*bdd.Table
	held []api.Ref // what the next steps need
}

func newSheet(bits int, held ...api.Ref) *sheet {
	// No error: the bits are those of a table that was made.
	t, _ := bdd.New(bits, api.MaxNodes)
	return &sheet{t, held}
}

// do takes a step, which changes what is held at its end alone. On a full sheet it is taken once more, with what is held and nothing else.
func (s *sheet) do(step func()) {
	if attempt(step) == api.OK {
		return
	}
	s.held, _ = s.Keep(s.held...)
	step()
}

// must gives up with an error.
func must(r api.Ref, e api.Errno) api.Ref {
	if e != api.OK {
		panic(e)
	}
	return r
}

// attempt does something, and tells the error with which that gives up.
func attempt(do func()) (e api.Errno) {
	defer func() {
		if given := recover(); given != nil {
			e = given.(api.Errno)
		}
	}()
	do()
	return api.OK
}

// answer is what is worked out; zero, if that gives up.
func answer[T any](work func() T) (out T, e api.Errno) {
	e = attempt(func() { out = work() })
	return out, e
}

// carry is one table's set in another one of as many bits.
func carry(from, to *bdd.Table, r api.Ref) api.Ref {
	// The list of yes is empty, as that of no.
	if r == no || r == yes {
		return r
	}
	// No error: the table told it.
	l, _ := from.List(r)
	made, _, e := to.Make(l)
	return must(made, e)
}
