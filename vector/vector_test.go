package vector_test

import (
	"math"
	"strings"
	"testing"

	"milestone/api"
	"milestone/vector"
)

const most = math.MaxUint64

// P16.2 and P16.4: the chapter's example.
func TestExample(t *testing.T) {
	a, b, c := stamps(0, 1, 2, 5), stamps(2, 5, 3, 1), stamps(2, 6)
	askMerge(t, []api.Vector{a, b}, stamps(0, 1, 2, 5, 3, 1))
	askNoMerge(t, []api.Vector{c, a, b})
	askJoin(t, []api.Vector{c, a, b}, stamps(0, 1, 2, 6, 3, 1))
	askFault(t, "1:2 1:3", 4)
	askText(t, stamps(0, 1, 2, 5, 3, 1), "0:1 2:5 3:1")
	askText(t, stamps(0, 1, 2, 6, 3, 1), "0:1 2:6 3:1")
}

// The chapter's words: a vector.
func TestCheck(t *testing.T) {
	for _, l := range [][]api.Vector{
		nil, {}, {nil}, {{}}, {nil, {}, nil},
		{stamps(0, 0)}, {stamps(255, most)}, {stamps(0, most, 255, 0)}, {stamps(0, 5, 1, 4, 2, 3)},
		{stamps(7, 1), stamps(7, 2)}, {stamps(200, 1), stamps(3, 1)},
		{full(func(device int) uint64 { return uint64(device) })},
		{full(func(int) uint64 { return most }), full(func(int) uint64 { return 0 })},
	} {
		same(t, "Check's error", vector.Check(l...), api.OK)
	}
}

// P16.1
func TestGet(t *testing.T) {
	v := stamps(0, 9, 3, 0, 200, most, 255, 1)
	askGet(t, v, 0, 9, true)
	askGet(t, v, 3, 0, true)
	askGet(t, v, 200, most, true)
	askGet(t, v, 255, 1, true)
	for _, device := range []int{1, 2, 4, 199, 201, 254, 256, 257, -1, math.MinInt, math.MaxInt, 1 << 32, 1<<32 + 3, 256 + 3} {
		askGet(t, v, device, 0, false)
	}
	for _, device := range []int{0, 255, 256, -1, math.MinInt, math.MaxInt} {
		askGet(t, nil, device, 0, false)
		askGet(t, api.Vector{}, device, 0, false)
	}
	all := full(func(device int) uint64 { return uint64(device * device) })
	for device := range api.MaxDevices {
		askGet(t, all, device, uint64(device*device), true)
		rest := append(all[:device:device], all[device+1:]...)
		askGet(t, rest, device, 0, false)
	}
}

// P16.1
func TestWith(t *testing.T) {
	v := stamps(2, 5, 7, 6)
	askWith(t, v, nil, v)
	askWith(t, v, []api.Stamp{}, v)
	askWith(t, v, stamps(2, 9), stamps(2, 9, 7, 6))
	askWith(t, v, stamps(7, 1), stamps(2, 5, 7, 1)) // a lesser version takes the place too
	askWith(t, v, stamps(7, 0), stamps(2, 5, 7, 0))
	askWith(t, v, stamps(0, 1), stamps(0, 1, 2, 5, 7, 6))
	askWith(t, v, stamps(4, 0), stamps(2, 5, 4, 0, 7, 6))
	askWith(t, v, stamps(255, most), stamps(2, 5, 7, 6, 255, most))
	askWith(t, v, stamps(255, 1, 0, 2, 7, 3, 4, 4), stamps(0, 2, 2, 5, 4, 4, 7, 3, 255, 1))
	askWith(t, nil, nil, nil)
	askWith(t, api.Vector{}, nil, nil)
	askWith(t, nil, stamps(9, 1, 3, 2), stamps(3, 2, 9, 1))
	askWith(t, api.Vector{}, stamps(0, 0), stamps(0, 0))
	// Of a device that stands several times, the last one.
	askWith(t, v, stamps(2, 1, 2, 9, 2, 3), stamps(2, 3, 7, 6))
	askWith(t, v, stamps(4, 9, 4, 2), stamps(2, 5, 4, 2, 7, 6))
	askWith(t, v, stamps(4, 9, 2, 1, 4, 8, 2, 0, 4, 7), stamps(2, 0, 4, 7, 7, 6))
	askWith(t, nil, stamps(1, 3, 1, 2, 1, 1), stamps(1, 1))
	all := full(func(device int) uint64 { return uint64(device) })
	askWith(t, nil, all, all)
	askWith(t, all, full(func(int) uint64 { return most }), full(func(int) uint64 { return most }))
	askWith(t, all, stamps(128, 1), append(append(all[:128:128], stamps(128, 1)...), all[129:]...))
}

// P16.2
func TestMerge(t *testing.T) {
	askMerge(t, nil, nil)
	askMerge(t, []api.Vector{}, nil)
	askMerge(t, []api.Vector{nil}, nil)
	askMerge(t, []api.Vector{{}, nil, {}}, nil)
	askMerge(t, []api.Vector{stamps(3, 4)}, stamps(3, 4))
	askMerge(t, []api.Vector{stamps(3, 4), nil}, stamps(3, 4))
	askMerge(t, []api.Vector{{}, stamps(3, 4)}, stamps(3, 4))
	askMerge(t, []api.Vector{stamps(3, 4), stamps(3, 4), stamps(3, 4)}, stamps(3, 4))
	askMerge(t, []api.Vector{stamps(255, most), stamps(0, 0), stamps(7, 1)}, stamps(0, 0, 7, 1, 255, most))
	askMerge(t, []api.Vector{stamps(1, 1, 3, 3), stamps(2, 2, 4, 4), stamps(1, 1, 2, 2), stamps(0, 0, 3, 3)}, stamps(0, 0, 1, 1, 2, 2, 3, 3, 4, 4))
	askNoMerge(t, []api.Vector{stamps(3, 4), stamps(3, 5)})
	askNoMerge(t, []api.Vector{stamps(3, 5), stamps(3, 4)})
	askNoMerge(t, []api.Vector{stamps(3, 0), stamps(3, most)})
	askNoMerge(t, []api.Vector{stamps(0, 0), stamps(0, 1)}) // a version 0 is one
	askNoMerge(t, []api.Vector{stamps(255, 1), stamps(255, 2)})
	askNoMerge(t, []api.Vector{stamps(0, 1, 2, 5), stamps(0, 1, 2, 4), nil})
	// Two that are apart in the row, those between of other devices.
	l := make([]api.Vector, 9)
	for i := range l {
		l[i] = stamps(uint64(10+i), 1)
	}
	for i := range l {
		for j := range i {
			apart := append([]api.Vector(nil), l...)
			apart[i], apart[j] = stamps(5, 1), stamps(5, 2, 10, 1)
			askNoMerge(t, apart)
			apart[j] = stamps(5, 1, 20, 1)
			if got, ok, e := vector.Merge(apart...); !ok || e != api.OK || len(got) != 9 {
				t.Errorf("Merge(%v) = %v, %v, %v", apart, got, ok, e)
			}
		}
	}
	// What agrees with the greatest may not agree with a lesser one.
	askNoMerge(t, []api.Vector{stamps(1, 1), stamps(1, 2), stamps(1, 2), stamps(1, 2)})
	askNoMerge(t, []api.Vector{stamps(1, 2), stamps(1, 2), stamps(1, 2), stamps(1, 1)})
}

// P16.2
func TestJoin(t *testing.T) {
	askJoin(t, nil, nil)
	askJoin(t, []api.Vector{nil, {}}, nil)
	askJoin(t, []api.Vector{stamps(3, 4)}, stamps(3, 4))
	askJoin(t, []api.Vector{nil, stamps(3, 4)}, stamps(3, 4))
	askJoin(t, []api.Vector{stamps(3, 4), stamps(3, 5)}, stamps(3, 5))
	askJoin(t, []api.Vector{stamps(3, 5), stamps(3, 4)}, stamps(3, 5))
	askJoin(t, []api.Vector{stamps(3, 0), stamps(3, most), stamps(3, 1)}, stamps(3, most))
	askJoin(t, []api.Vector{stamps(3, 1<<63), stamps(3, 1)}, stamps(3, 1<<63)) // versions have no sign
	askJoin(t, []api.Vector{stamps(0, 0), stamps(255, 0)}, stamps(0, 0, 255, 0))
	askJoin(t, []api.Vector{stamps(0, 1, 2, 9, 7, 3), stamps(0, 2, 2, 8, 5, 5), stamps(7, 4)}, stamps(0, 2, 2, 9, 5, 5, 7, 4))
	all := full(func(device int) uint64 { return uint64(device) })
	back := full(func(device int) uint64 { return uint64(255 - device) })
	askJoin(t, []api.Vector{all, back}, full(func(device int) uint64 { return uint64(max(device, 255-device)) }))
}

// P16.3
func TestBelow(t *testing.T) {
	askBelow(t, nil, nil, true)
	askBelow(t, api.Vector{}, nil, true)
	askBelow(t, nil, stamps(1, 1), true)
	askBelow(t, stamps(1, 1), nil, false)
	askBelow(t, stamps(1, 0), nil, false) // a version 0 is one, too
	askBelow(t, stamps(1, 1), stamps(1, 1), true)
	askBelow(t, stamps(1, 1), stamps(1, 2), true)
	askBelow(t, stamps(1, 2), stamps(1, 1), false)
	askBelow(t, stamps(1, 0), stamps(1, most), true)
	askBelow(t, stamps(1, most), stamps(1, most-1), false)
	askBelow(t, stamps(1, 1), stamps(2, 1), false)
	askBelow(t, stamps(2, 1), stamps(1, 1), false)
	askBelow(t, stamps(255, 1), stamps(0, 1, 255, 1), true)
	askBelow(t, stamps(0, 1), stamps(0, 1, 255, 1), true)
	askBelow(t, stamps(0, 1, 255, 1), stamps(0, 1), false)
	askBelow(t, stamps(0, 1, 255, 1), stamps(255, 1), false)
	askBelow(t, stamps(0, 1, 2, 5), stamps(0, 2, 1, 0, 2, 5), true)
	askBelow(t, stamps(0, 1, 2, 5), stamps(0, 2, 1, 0, 2, 4), false)
	askBelow(t, stamps(0, 3, 2, 5), stamps(0, 2, 1, 0, 2, 6), false)
	askBelow(t, stamps(0, 1, 1, 1, 2, 1), stamps(0, 2, 2, 2), false)
	all := full(func(device int) uint64 { return uint64(device) })
	for device := range api.MaxDevices {
		more, _ := vector.With(all, api.Stamp{Device: device, Version: 1000})
		askBelow(t, all, more, true)
		askBelow(t, more, all, false)
	}
}

// P16.3: of any rows of stamps.
func TestSame(t *testing.T) {
	rows := []api.Vector{
		nil,
		stamps(0, 0),
		stamps(0, 1),
		stamps(1, 0),
		stamps(0, most),
		stamps(255, 0),
		stamps(0, 0, 0, 0),
		stamps(0, 0, 1, 0),
		stamps(1, 0, 0, 0),
		stamps(0, 0, 1, 0, 2, 0),
		stamps(0, 0, 1, 0, 2, 1),
		stamps(0, 0, 1, 1, 2, 0),
		stamps(3, 0, 1, 0, 2, 0),
		{{Device: -1}},
		{{Device: 256}},
		{{Device: 1 << 32}},
		{{Device: math.MinInt, Version: 7}},
		{{Device: math.MaxInt, Version: 7}},
		{{Device: -1}, {Device: -1}},
		full(func(device int) uint64 { return 0 }),
		append(full(func(device int) uint64 { return 0 }), api.Stamp{Device: 256}),
	}
	for i, a := range rows {
		for j, b := range rows {
			askSame(t, a, append(api.Vector(nil), b...), i == j)
		}
	}
	askSame(t, nil, api.Vector{}, true)
	askSame(t, stamps(1, 1), stamps(1, 1)[:0], false)
}

// P16.4
func TestText(t *testing.T) {
	askText(t, nil, "-")
	askText(t, api.Vector{}, "-")
	askText(t, stamps(0, 0), "0:0")
	askText(t, stamps(255, most), "255:18446744073709551615")
	askText(t, stamps(0, most, 255, 0), "0:18446744073709551615 255:0")
	askText(t, stamps(9, 10, 10, 9, 99, 1, 100, 1<<63), "9:10 10:9 99:1 100:9223372036854775808")
	all := full(func(int) uint64 { return most })
	s := modelText(all)
	same(t, "the longest text has so many bytes", len(s), 10*2+90*3+156*4+256*20+255)
	askText(t, all, s)
}

// P16.4: a part that is no stamp.
func TestReadOfNoStamp(t *testing.T) {
	for _, part := range []string{
		"", "-", "0", "7", ":", "::", "0:", ":0", ":1:", "0::1", "1:2:3", "1:2:", ":1:2",
		"01:1", "00:1", "1:01", "1:00", "0:00", "007:7", "1:007",
		"256:1", "300:0", "1000:0", "18446744073709551616:0", "18446744073709551617:1", "4294967296:1",
		"0:18446744073709551616", "0:18446744073709551617", "0:99999999999999999999", "0:184467440737095516150", "0:36893488147419103232",
		"+1:1", "-1:1", "-0:1", "1:+1", "1:-1", "1:-0", "1,1", "1.1", "1;1", "1=1", "1/1", "1:1,", "1:1;", ",1:1",
		"a:1", "1:a", "x", "1:1a", "a1:1", "0x1:1", "1:0x1", "1:1e0", "1_0:1", "1:1_0", "1:1.", "0b1:1", "1:0o7",
		"1\t:1", "1:\t1", "\t1:1", "1:1\t", "1:1\n", "\n1:1", "1:1\r", "1:1\x00", "\x001:1", "1\u00a0:1", "1:1\u00a0", "\u00a01:1", "1:1\t2:2",
		"\uff11:1", "1:\uff11", "\u0661:1", "1\uff1a1", "\xff:1", "1:\xff", "--", "-:-", "-1", "1-1",
		"1:" + strings.Repeat("9", 5000), strings.Repeat("9", 5000) + ":1", "1:" + strings.Repeat("0", 5000), strings.Repeat("0", 5000) + ":1",
		"1:1" + strings.Repeat(":1", 5000), strings.Repeat("-", api.MaxText),
	} {
		if part != "-" {
			askFault(t, part, 0)
		}
		askFault(t, part+" 9:9", 0)
		askFault(t, "0:5 "+part, 4)
		askFault(t, "0:5 "+part+" 9:9", 4)
		askFault(t, "0:5 17:18446744073709551615 "+part, 28)
		askFault(t, "0:5 17:18446744073709551615 "+part+" 0:0 x", 28)
	}
}

// P16.4: a part that does not rise.
func TestReadOfWhatDoesNotRise(t *testing.T) {
	askFault(t, "1:2 1:2", 4)
	askFault(t, "1:2 1:1", 4)
	askFault(t, "1:2 0:3", 4)
	askFault(t, "0:0 0:0", 4)
	askFault(t, "255:0 255:1", 6)
	askFault(t, "255:0 0:1", 6)
	askFault(t, "10:1 9:1", 5) // by numbers, not by bytes
	askFault(t, "1:1 2:1 2:1 x", 8)
	askFault(t, "1:1 2:1 1:5", 8)
	askFault(t, "1:1 3:1 2:1", 8)
	askText(t, stamps(9, 1, 10, 1), "9:1 10:1")
	askText(t, stamps(1, 2, 2, 1), "1:2 2:1") // versions need not
}

// P16.4: blanks.
func TestReadOfBlanks(t *testing.T) {
	askFault(t, "", 0)
	askFault(t, " ", 0)
	askFault(t, "  ", 0)
	askFault(t, " 0:1", 0)
	askFault(t, "  0:1", 0)
	askFault(t, "0:1 ", 4)
	askFault(t, "0:1  ", 4)
	askFault(t, "0:1  1:1", 4)
	askFault(t, "0:1   1:1", 4)
	askFault(t, "0:1 1:1 ", 8)
	askFault(t, "0 :1", 0)
	askFault(t, "0: 1", 0)
	askFault(t, "- ", 0)
	askFault(t, " -", 0)
	askFault(t, "- -", 0)
	askFault(t, "- 0:1", 0)
	askFault(t, "0:1 -", 4)
	askFault(t, strings.Repeat(" ", api.MaxText), 0)
	askFault(t, "0:1"+strings.Repeat(" ", api.MaxText), 4)
}

// P16.4: texts longer than those of all vectors have a part that is none.
func TestReadOfLongTexts(t *testing.T) {
	all := modelText(full(func(int) uint64 { return most }))
	askFault(t, all+" 0:1", len(all)+1)
	askFault(t, all+" 255:1", len(all)+1)
	askFault(t, all+" 256:1", len(all)+1)
	askFault(t, all+" ", len(all)+1)
	askFault(t, all+"0", strings.LastIndex(all, " ")+1)
	askFault(t, strings.Repeat("0:1 ", api.MaxText), 4)
	askFault(t, strings.Repeat("0", 8*api.MaxText)+":1", 0)
	askFault(t, "0:"+strings.Repeat("1", 8*api.MaxText), 0)
	askFault(t, all+" "+strings.Repeat(":", 8*api.MaxText), len(all)+1)
}
