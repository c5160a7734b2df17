package engine

import (
	"milestone/api"
	"milestone/bdd"
	"milestone/counts"
)

// answer is what is worked out; zero, if that is refused.
func answer[T any](work func() T) (told T, e api.Errno) {
	defer func() {
		if given := recover(); given != nil {
			e = given.(api.Errno)
		}
	}()
	return work(), api.OK
}

// refuse gives up, but for OK.
func refuse(e api.Errno) {
	if e != api.OK {
		panic(e)
	}
}

// must gives up where something does not hold.
func must(holds bool, e api.Errno) {
	if !holds {
		refuse(e)
	}
}

// usable: made, and of the one Limit that all calls ask for.
func usable(t *bdd.Table) {
	// A table that was made has some bits.
	must(t.Bits() > 0, api.ErrNil)
	must(t.Limit() == api.MaxNodes, api.ErrArg)
}

func bounded(bound int) { refuse(counts.Check(bound)) }

func told(t *bdd.Table, r api.Ref) {
	_, _, e := t.Any(r)
	refuse(e)
}

func entriesTold(t *bdd.Table, l []api.Entry) {
	for _, x := range l {
		told(t, x.Where)
	}
}
