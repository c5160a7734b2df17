package engine

import (
	"strings"

	"milestone/api"
	"milestone/bdd"
	"milestone/counts"
)

// none is the result in which all packets have 0 alone.
func none(t *bdd.Table, packets api.Ref, bound int) []api.Entry {
	usable(t)
	bounded(bound)
	told(t, packets)
	if packets == no {
		return nil
	}
	return []api.Entry{{Where: packets, Counts: sure(counts.Of(bound, 0))}}
}

// at are the counts of the first entry in which a header lies, if there is one.
func at(t *bdd.Table, l []api.Entry, header string) (api.Counts, bool) {
	usable(t)
	entriesTold(t, l)
	// There need be no entry of which to ask.
	_, e := t.Has(yes, header)
	refuse(e)
	for _, x := range l {
		if lies, _ := t.Has(x.Where, header); lies {
			return x.Counts, true
		}
	}
	return 0, false
}

// verdict is that of the first entry whose counts break a compare.
func verdict(t *bdd.Table, l []api.Entry, bound, compare int) api.Verdict {
	usable(t)
	bounded(bound)
	entriesTold(t, l)
	for _, x := range l {
		refuse(counts.Check(bound, x.Counts))
	}
	// There need be no entry of which to ask.
	_, _, e := counts.Breaks(bound, compare, sure(counts.Of(bound, 0)))
	refuse(e)
	for _, x := range l {
		if n, breaks, _ := counts.Breaks(bound, compare, x.Counts); breaks {
			header, _, _ := t.Any(x.Where)
			return api.Verdict{Header: strings.ReplaceAll(header, "x", "0"), Count: n}
		}
	}
	return api.Verdict{Right: true}
}
