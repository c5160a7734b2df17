package vector_test

import (
	"math/rand"
	"slices"
	"testing"

	"milestone/api"
	"milestone/vector"
)

// P16.1 to P16.3, of all small vectors.
func TestSmallOnes(t *testing.T) {
	l := allOf(3, 2)
	same(t, "there are so many", len(l), 64)
	for _, a := range l {
		askMerge(t, []api.Vector{a}, a)
		askJoin(t, []api.Vector{a}, a)
		for device := -1; device < 5; device++ {
			version, has := modelOf(a)[device]
			askGet(t, a, device, version, has)
		}
		for _, b := range l {
			askWith(t, a, b, modelWith(a, b))
			askTogether(t, a, b)
			askBelow(t, a, b, modelBelow(a, b))
			askSame(t, a, slices.Clone(b), rowsAlike(a, b))
			for _, c := range l {
				askTogether(t, a, b, c)
			}
		}
	}
}

// askTogether asks Merge and Join of vectors.
func askTogether(t *testing.T, l ...api.Vector) {
	t.Helper()
	askJoin(t, l, modelJoin(l))
	if modelAgree(l) {
		askMerge(t, l, modelJoin(l))
	} else {
		askNoMerge(t, l)
	}
}

// P16.1 to P16.3, of vectors of all sizes.
func TestSomeVectors(t *testing.T) {
	someTimes(func(r *rand.Rand) {
		l := make([]api.Vector, r.Intn(5))
		for i := range l {
			l[i] = someVector(r)
		}
		if r.Intn(2) == 0 {
			l = someParts(r, someVector(r), r.Intn(20))
		}
		askTogether(t, l...)
		a, b := someVector(r), someVector(r)
		if r.Intn(2) == 0 {
			b = join(t, a, b)
		}
		askBelow(t, a, b, modelBelow(a, b))
		askBelow(t, b, a, modelBelow(b, a))
		puts := shuffled(r, append(slices.Clone(b), someVector(r)...))
		askWith(t, a, puts, modelWith(a, puts))
		device := r.Intn(api.MaxDevices+2) - 1
		version, has := modelOf(a)[device]
		askGet(t, a, device, version, has)
	})
}

// Many vectors at once.
func TestManyVectors(t *testing.T) {
	r := rand.New(rand.NewSource(5))
	v := full(func(device int) uint64 { return uint64(device) * 3 })
	var l []api.Vector
	for i := range 1 << 18 {
		l = append(l, v[i%256:i%256+1])
	}
	l = shuffled(r, l)
	askMergeOfMany(t, l, v, true)
	l[1<<17+77] = stamps(9, 1)
	askMergeOfMany(t, l, v, false)
	clear(l)
	askMergeOfMany(t, l, nil, true)
	l[1<<18-1] = v
	askMergeOfMany(t, l, v, true)
}

func askMergeOfMany(t *testing.T, l []api.Vector, joined api.Vector, agree bool) {
	t.Helper()
	same(t, "Join of many", vector.Same(join(t, l...), joined), true)
	merged, is := merge(t, l...)
	same(t, "many agree", is, agree)
	same(t, "Merge of many", !is || vector.Same(merged, joined), true)
}

// The words: a vector.
func TestCheckOfSomeRows(t *testing.T) {
	someTimes(func(r *rand.Rand) {
		v := someVector(r)
		for range r.Intn(3) {
			at := r.Intn(len(v) + 1)
			v = slices.Insert(v, at, api.Stamp{Device: r.Intn(api.MaxDevices+2) - 1, Version: someVersion(r)})
		}
		want := api.ErrVector
		if modelMay(v) {
			want = api.OK
		}
		same(t, "Check's error", vector.Check(someVector(r), v, someVector(r)), want)
	})
}

// P16.5: order, and what stands twice.
func TestOrder(t *testing.T) {
	someTimes(func(r *rand.Rand) {
		l := []api.Vector{someVector(r), someVector(r), someVector(r), nil}
		if r.Intn(2) == 0 {
			l = someParts(r, someVector(r), 4)
		}
		joined := join(t, l...)
		merged, agree := merge(t, l...)
		again := slices.Clone(l)
		for range r.Intn(4) {
			again = append(again, slices.Clone(l[r.Intn(len(l))]))
		}
		again = shuffled(r, again)
		askJoin(t, again, joined)
		if agree {
			askMerge(t, again, merged)
		} else {
			askNoMerge(t, again)
		}
	})
}

// P16.5: brackets.
func TestBrackets(t *testing.T) {
	someTimes(func(r *rand.Rand) {
		l := []api.Vector{someVector(r), someVector(r), someVector(r), someVector(r)}
		if r.Intn(2) == 0 {
			l = someParts(r, someVector(r), 4)
		}
		at := r.Intn(5)
		joined := join(t, l...)
		askJoin(t, []api.Vector{join(t, l[:at]...), join(t, l[at:]...)}, joined)
		askJoin(t, []api.Vector{l[0], join(t, l[1], join(t, l[2], l[3]))}, joined)
		askJoin(t, []api.Vector{join(t, join(t, l[0], l[1]), l[2]), l[3]}, joined)
		merged, agree := merge(t, l...)
		left, agreeLeft := merge(t, l[:at]...)
		right, agreeRight := merge(t, l[at:]...)
		if agree != (agreeLeft && agreeRight && modelAgree([]api.Vector{left, right})) {
			t.Errorf("%v agree: %v, their parts: %v, %v", l, agree, agreeLeft, agreeRight)
		}
		if agreeLeft && agreeRight && agree {
			askMerge(t, []api.Vector{left, right}, merged)
		} else if agreeLeft && agreeRight {
			askNoMerge(t, []api.Vector{left, right})
		}
	})
}

// P16.6: Join is above each, and below all that are above each.
func TestLeast(t *testing.T) {
	l := allOf(2, 2)
	for _, a := range l {
		for _, b := range l {
			joined := join(t, a, b)
			askBelow(t, a, joined, true)
			askBelow(t, b, joined, true)
			for _, c := range l {
				if below(t, a, c) && below(t, b, c) {
					askBelow(t, joined, c, true)
				}
			}
		}
	}
	someTimes(func(r *rand.Rand) {
		a, b, c := someVector(r), someVector(r), someVector(r)
		joined := join(t, a, b)
		askBelow(t, a, joined, true)
		askBelow(t, b, joined, true)
		askBelow(t, joined, join(t, c, b, a), true)
		if !rowsAlike(join(t, joined, c), joined) {
			askBelow(t, c, joined, false)
		}
	})
}

// P16.6: where vectors agree, Merge is Join, and takes nothing from any.
func TestMergeIsJoin(t *testing.T) {
	someTimes(func(r *rand.Rand) {
		l := someParts(r, someVector(r), 1+r.Intn(5))
		merged, agree := merge(t, l...)
		same(t, "parts of one agree", agree, true)
		askJoin(t, l, merged)
		for _, v := range l {
			for _, s := range v {
				askGet(t, merged, s.Device, s.Version, true)
			}
		}
		for _, s := range merged {
			has := slices.ContainsFunc(l, func(v api.Vector) bool { return slices.Contains(v, s) })
			same(t, "a stamp of Merge's answer is one of theirs", has, true)
		}
	})
}

// P16.7: a partial order.
func TestPartialOrder(t *testing.T) {
	l := allOf(2, 2)
	for _, a := range l {
		askBelow(t, a, a, true)
		for _, b := range l {
			if below(t, a, b) && below(t, b, a) {
				askSame(t, a, b, true)
			}
			for _, c := range l {
				if below(t, a, b) && below(t, b, c) {
					askBelow(t, a, c, true)
				}
			}
		}
	}
	someTimes(func(r *rand.Rand) {
		a, b, c := someVector(r), someVector(r), someVector(r)
		askBelow(t, a, slices.Clone(a), true)
		askBelow(t, a, join(t, join(t, a, b), c), true)
		askSame(t, a, b, below(t, a, b) && below(t, b, a))
	})
}

// P16.8
func TestThereAndBack(t *testing.T) {
	each(3, 3, func(v api.Vector) { askText(t, v, modelText(v)) })
	someTimes(func(r *rand.Rand) {
		v := someVector(r)
		askText(t, v, modelText(v))
	})
}

// eachText goes through all texts of at most so many of the bytes.
func eachText(bytes string, most int, do func(s string)) {
	var grow func(s string)
	grow = func(s string) {
		do(s)
		if len(s) == most {
			return
		}
		for i := range len(bytes) {
			grow(s + bytes[i:i+1])
		}
	}
	grow("")
}

// askRead asks Read for what the model says.
func askRead(t *testing.T, s string) {
	t.Helper()
	if at := modelFault(s); at >= 0 {
		askFault(t, s, at)
		return
	}
	v, at, e := vector.Read(s)
	if at != 0 || e != api.OK {
		t.Errorf("Read(%q) = %v, %d, %v, want a vector", s, v, at, e)
		return
	}
	askText(t, v, s)
}

// P16.4, of all short texts.
func TestReadOfShortTexts(t *testing.T) {
	eachText("012: -", 7, func(s string) { askRead(t, s) })
}

// P16.4, of texts in which bytes are others, too many, or wanting.
func TestReadOfSpoiltTexts(t *testing.T) {
	const bytes = "0123456789: -x\t"
	someTimes(func(r *rand.Rand) {
		s := modelText(someVector(r))
		for range 1 + r.Intn(2) {
			at, b := r.Intn(len(s)), r.Intn(len(bytes))
			s = s[:at] + bytes[b:b+r.Intn(2)] + s[at+r.Intn(2):]
			if s == "" {
				break
			}
		}
		askRead(t, s)
	})
}

// P16.4, of each byte at each place.
func TestReadOfEachByte(t *testing.T) {
	for _, s := range []string{"-", "0:0", "7:10 25:9", "25:18446744073709551615 200:3"} {
		for at := range len(s) + 1 {
			for b := range 256 {
				askRead(t, s[:at]+string([]byte{byte(b)})+s[at:])
				askRead(t, s[:at]+string([]byte{byte(b)})+s[min(at+1, len(s)):])
			}
			askRead(t, s[:at])
			askRead(t, s[at:])
		}
	}
}

// Rule 5: what a call answers does not hang on those before it.
func TestAgain(t *testing.T) {
	someTimes(func(r *rand.Rand) {
		a, b, c := someVector(r), someVector(r), someVector(r)
		first := join(t, a, b)
		join(t, b, c)
		merge(t, a, c)
		askJoin(t, []api.Vector{a, b}, first)
	})
}
