package invar_test

import (
	"math"
	"slices"
	"strings"
	"testing"
	"unsafe"

	"milestone/api"
	"milestone/invar"
)

// noNames are words of which none is a name.
func noNames() []string {
	return []string{"1", "0", "7a", "-", "-a", "--", "->", "==", "<=", ">=", "(", ")", ",", "|", "*", "+", "?", ".", "$", "=", "<", ">", strings.Repeat("n", api.MaxName+1), strings.Repeat("n", 100000)}
}

// noTexts are texts that are no words.
func noTexts() []string {
	return []string{"", " ", "a b", " a", "a ", "a\n", "n#", "\xff", "caf\u00e9", "a,b", "a->b", "a*", "\x00", "%"}
}

// P12.1 and P12.2: each change alone is one behind which an invariant may not be.
func TestFieldsThatMayNotBe(t *testing.T) {
	for what, change := range map[string]func(v *api.Invariant){
		"no Packets":                 func(v *api.Invariant) { v.Packets = "" },
		"129 bits":                   func(v *api.Invariant) { v.Packets = strings.Repeat("x", api.MaxBits+1) },
		"many bits":                  func(v *api.Invariant) { v.Packets = strings.Repeat("1", 100000) },
		"another byte in Packets":    func(v *api.Invariant) { v.Packets = "12" },
		"a great X":                  func(v *api.Invariant) { v.Packets = "1X" },
		"a blank in Packets":         func(v *api.Invariant) { v.Packets = "1 x" },
		"no Ingress":                 func(v *api.Invariant) { v.Ingress = nil },
		"an empty Ingress":           func(v *api.Invariant) { v.Ingress = []string{} },
		"257 of Ingress":             func(v *api.Invariant) { v.Ingress = names("d", api.MaxDevices+1) },
		"many of Ingress":            func(v *api.Invariant) { v.Ingress = names("d", 9999) },
		"Ingress alike":              func(v *api.Invariant) { v.Ingress = []string{"a", "a"} },
		"the last two alike":         func(v *api.Invariant) { v.Ingress = []string{"a", "b", "b"} },
		"Ingress that falls":         func(v *api.Invariant) { v.Ingress = []string{"b", "a"} },
		"the last one falls":         func(v *api.Invariant) { v.Ingress = []string{"a", "b", "B"} },
		"the last one of many falls": func(v *api.Invariant) { v.Ingress = append(names("d", api.MaxDevices-1), "c") },
		"Hops below 0":               func(v *api.Invariant) { v.Hops = -1 },
		"65 hops":                    func(v *api.Invariant) { v.Hops = api.MaxHops + 1 },
		"the least Hops":             func(v *api.Invariant) { v.Hops = math.MinInt },
		"the greatest Hops":          func(v *api.Invariant) { v.Hops = math.MaxInt },
		"Hops that wrap":             func(v *api.Invariant) { v.Hops = 1<<32 + 3 },
		"no Compare":                 func(v *api.Invariant) { v.Compare = 0 },
		"a Compare below 0":          func(v *api.Invariant) { v.Compare = -1 },
		"a Compare too great":        func(v *api.Invariant) { v.Compare = 4 },
		"a Compare that wraps":       func(v *api.Invariant) { v.Compare = 1<<32 + 1 },
		"the least Compare":          func(v *api.Invariant) { v.Compare = math.MinInt },
		"the greatest Compare":       func(v *api.Invariant) { v.Compare = math.MaxInt },
		"a Count below 0":            func(v *api.Invariant) { v.Count = -1 },
		"63 copies":                  func(v *api.Invariant) { v.Count = api.MaxCount + 1 },
		"64 copies":                  func(v *api.Invariant) { v.Count = api.MaxHops },
		"the least Count":            func(v *api.Invariant) { v.Count = math.MinInt },
		"the greatest Count":         func(v *api.Invariant) { v.Count = math.MaxInt },
		"nothing":                    func(v *api.Invariant) { *v = api.Invariant{} },
		"a Path alone":               func(v *api.Invariant) { *v = api.Invariant{Path: v.Path} },
	} {
		askNone(t, what, with(change), api.ErrInvariant)
		// Ahead of a Path that may not be.
		for _, path := range []api.Regex{{}, endless(), seq(device("a"))} {
			v := with(change)
			v.Path = path
			askNone(t, what+", and the Path", v, api.ErrInvariant)
		}
	}
}

func TestNamesThatMayNotBe(t *testing.T) {
	for _, w := range append(noNames(), noTexts()...) {
		askNone(t, "the Name", named(w), api.ErrInvariant)
		for _, l := range [][]string{{w}, {"a", w}, {w, "a"}, {"a", w, "b"}} {
			slices.Sort(l)
			askNone(t, "an ingress", with(func(v *api.Invariant) { v.Ingress = l }), api.ErrInvariant)
		}
		askNone(t, "a device in Path", routed(device(w)), api.ErrRegex)
		askNone(t, "a class in Path", routed(plus(class(w))), api.ErrRegex)
	}
}

func TestPathsThatMayNotBe(t *testing.T) {
	a := device("a")
	for what, path := range map[string]api.Regex{
		"none":               {},
		"no such kind":       {Op: 9},
		"a kind below 0":     {Op: -1, Name: "a"},
		"a device with Kids": {Op: api.RDevice, Name: "a", Kids: []api.Regex{a}},
		"RAny with a Name":   {Op: api.RAny, Name: "a"},
		"a row of one":       seq(a),
		"a row in a row":     seq(a, seq(a, a)),
		"one of one":         alt(a),
		"one of none":        alt(),
		"RAlt in RAlt":       alt(a, alt(a, a)),
		"a star of none":     {Op: api.RStar},
		"a star of two":      {Op: api.RStar, Kids: []api.Regex{a, a}},
		"a fault below":      opt(alt(a, plus(seq(a, class(""))))),
	} {
		askNone(t, what, routed(path), api.ErrRegex)
	}
	askNone(t, "1001 nodes", routed(seq(slices.Repeat([]api.Regex{a}, api.MaxRegex)...)), api.ErrMany)
	askNone(t, "1001 nodes of which one may not be", routed(seq(slices.Repeat([]api.Regex{{}}, api.MaxRegex)...)), api.ErrMany)
	askNone(t, "101 deep", routed(repeated(a, api.MaxDeep)), api.ErrDeep)
	askNone(t, "one that lies in itself", routed(endless()), api.ErrMany)
	// Of which there are 2^60 nodes, in few lists.
	x := a
	for range 60 {
		x = alt(x, x)
	}
	askNone(t, "one with too many nodes to count", routed(x), api.ErrMany)
	askSame(t, "one that lies in itself", routed(endless()), routed(endless()), true)
	askSame(t, "one that lies in itself, and another one", routed(endless()), good(), false)
	askSame(t, "one with too many nodes to count", routed(x), routed(alt(x, x)), false)
}

func TestCheckOfTopologies(t *testing.T) {
	bad := map[string]api.Topo{"nothing": {}, "no device": net(2), "no width": net(0, "a", "b"), "too wide": net(129, "a", "b"), "devices that fall": net(2, "b", "a"), "devices alike": net(2, "a", "a", "b"),
		"too many": net(2, names("d", 257)...), "no name": net(2, "a", "b", "%"), "a link to nowhere": {Width: 2, Devices: net(2, "a", "b").Devices, Links: []api.Link{{A: 0, PortA: "p", B: 1, PortB: "p"}}}}
	for what, x := range bad {
		askCheck(t, what, good(), x, api.ErrTopo)
		// Ahead of all that is wrong with the invariant.
		askCheck(t, what, api.Invariant{}, x, api.ErrTopo)
		askCheck(t, what, routed(endless()), x, api.ErrTopo)
	}
}

func TestCheckOfWidths(t *testing.T) {
	for w := 1; w <= api.MaxBits; w++ {
		want := api.ErrWidth
		if w == 2 {
			want = api.OK
		}
		askCheck(t, "a topology's width", good(), net(w, "a", "b"), want)
		v := with(func(v *api.Invariant) { v.Packets = strings.Repeat("0", w) })
		askCheck(t, "an invariant's", v, net(2, "a", "b"), want)
		if want != api.OK {
			// Behind what may not be, ahead of devices that are not there.
			askCheck(t, "a width and a device", v, net(2, "c"), api.ErrWidth)
			v.Count = 63
			askCheck(t, "a width and a Count", v, net(2, "a", "b"), api.ErrInvariant)
			v.Count, v.Path = 1, api.Regex{}
			askCheck(t, "a width and a Path", v, net(2, "a", "b"), api.ErrRegex)
		}
	}
}

func TestCheckOfDevices(t *testing.T) {
	askCheck(t, "one is not there", good(), net(2, "a"), api.ErrUnknown)
	askCheck(t, "the other one is not there", good(), net(2, "b"), api.ErrUnknown)
	askCheck(t, "neither is there", good(), net(2, "A", "B", "ab"), api.ErrUnknown)
	from := func(l ...string) api.Invariant { return with(func(v *api.Invariant) { v.Ingress = l }) }
	askCheck(t, "the first ingress", from("A", "a", "b"), net(2, "a", "b"), api.ErrUnknown)
	askCheck(t, "the last ingress", from("a", "b", "c"), net(2, "a", "b"), api.ErrUnknown)
	askCheck(t, "the middle one", from("a", "aa", "b"), net(2, "a", "b"), api.ErrUnknown)
	all := names("d", api.MaxDevices)
	v := from(all...)
	v.Path = anyOne()
	askCheck(t, "all", v, net(2, all...), api.OK)
	askCheck(t, "one of many", v, net(2, append(slices.Clone(all[:255]), "e")...), api.ErrUnknown)
	for what, path := range map[string]api.Regex{
		"a device":          device("c"),
		"in a row":          seq(device("a"), device("b"), device("c")),
		"one of some":       alt(device("c"), device("a")),
		"far below":         opt(plus(star(alt(seq(device("a"), device("c")), anyOne())))),
		"beside a class":    seq(class("a"), device("c")),
		"that is a class":   seq(class("c"), device("c")),
		"of no path at all": alt(seq(), device("A")),
		"of a longer name":  device("ab"),
		"the last of many":  seq(append(slices.Repeat([]api.Regex{device("a")}, api.MaxRegex-2), device("c"))...),
	} {
		askCheck(t, what, routed(path), net(2, "a", "b"), api.ErrUnknown)
		askCheck(t, what, routed(path), net(2, "A", "a", "ab", "b", "c"), api.OK)
	}
	// A device's class is no device.
	x := net(2, "a", "b")
	x.Devices[0].Classes, x.Devices[0].Ports = []string{"c"}, []string{"c"}
	askCheck(t, "a class of that name", routed(device("c")), x, api.ErrUnknown)
	askCheck(t, "a class of that name, as an ingress", from("c"), x, api.ErrUnknown)
}

func TestPrintOfTooMany(t *testing.T) {
	askNoPrint(t, "65", 0, api.ErrMany, several(api.MaxInvariants+1)...)
	askNoPrint(t, "many", 0, api.ErrMany, several(5000)...)
	// Ahead of all else.
	l := several(api.MaxInvariants + 1)
	l[3] = api.Invariant{}
	l[5].Path = api.Regex{}
	l[9] = l[8]
	askNoPrint(t, "65 with faults", 0, api.ErrMany, l...)
	askNoPrint(t, "65 alike", 0, api.ErrMany, slices.Repeat([]api.Invariant{good()}, 65)...)
	askNoPrint(t, "64 with faults", 3, api.ErrInvariant, l[:64]...)
}

func TestPrintOfTheSame(t *testing.T) {
	v, w := good(), named("w")
	askNoPrint(t, "two", 1, api.ErrSame, v, v)
	askNoPrint(t, "the last one", 2, api.ErrSame, v, w, v)
	askNoPrint(t, "the middle one", 2, api.ErrSame, named("a"), v, v, w)
	askNoPrint(t, "two twice", 2, api.ErrSame, v, w, w, v)
	// The Name alone counts.
	askNoPrint(t, "another one of that Name", 1, api.ErrSame, v, api.Invariant{Name: "v", Packets: "0", Ingress: []string{"c"}, Compare: api.Equal, Path: seq()})
	l := several(api.MaxInvariants)
	l[63].Name = l[0].Name
	askNoPrint(t, "the 64th", 63, api.ErrSame, l...)
}

// The first that may not be is told ahead of two alike, wherever it stands; both ahead of the length.
func TestPrintOfSeveralFaults(t *testing.T) {
	v, w := good(), named("w")
	none, other := with(func(v *api.Invariant) { v.Hops = 65 }), routed(seq(device("a")))
	askNoPrint(t, "the second", 1, api.ErrInvariant, w, none, v)
	askNoPrint(t, "two that may not be", 0, api.ErrInvariant, none, other)
	askNoPrint(t, "two that may not be", 0, api.ErrRegex, other, none)
	askNoPrint(t, "behind two alike", 2, api.ErrInvariant, v, v, none)
	askNoPrint(t, "behind two alike", 2, api.ErrRegex, v, v, other)
	askNoPrint(t, "of a Name that one ahead has", 1, api.ErrRegex, v, other)
	long := together(api.MaxText + 1)
	askNoPrint(t, "too long, behind it two alike", 20, api.ErrSame, append(long, long[3])...)
	askNoPrint(t, "too long, behind it one that may not be", 20, api.ErrInvariant, append(long, none)...)
	askNoPrint(t, "too long by far", 0, api.ErrLong, longest()...)
}

// longest are as many and as long invariants as may be.
func longest() []api.Invariant {
	l := several(api.MaxInvariants)
	for i := range l {
		l[i] = ofLength(l[i].Name, 60000)
		l[i].Ingress = nil
		for _, name := range names("d", api.MaxDevices) {
			l[i].Ingress = append(l[i].Ingress, name+strings.Repeat("d", api.MaxName-5))
		}
	}
	return l
}

// P12.3: what words tells of a text comes ahead of all that is wrong with its lines.
func TestFaultsOfWords(t *testing.T) {
	askFault(t, "%", 1, 1, api.ErrByte)
	askFault(t, goodLine+";", 1, len(goodLine)+1, api.ErrByte)
	askFault(t, "invariants\n\n  /", 3, 3, api.ErrByte)
	askFault(t, goodLine+"\r\n", 1, len(goodLine)+1, api.ErrByte)
	askFault(t, goodLine+"\n"+goodLine+"\ncaf\u00e9", 3, 4, api.ErrByte)
	askFault(t, strings.Repeat(" ", api.MaxText+1), 0, 0, api.ErrLong)
	askFault(t, "invariants"+strings.Repeat("%", api.MaxText), 0, 0, api.ErrLong)
	askFault(t, goodLine+"#"+strings.Repeat("%", api.MaxText-len(goodLine)), 0, 0, api.ErrLong)
	askFault(t, goodLine+strings.Repeat("\n", api.MaxText+1-len(goodLine)), 0, 0, api.ErrLong)
}

// Each place of a line at which a word is wanting.
func TestWordsThatAreWanting(t *testing.T) {
	for s, want := range map[string]api.Errno{
		"invariant":                                                  api.ErrName,
		"invariant u":                                                api.ErrInvariant,
		"invariant u packets":                                        api.ErrCube,
		"invariant u packets 1x":                                     api.ErrInvariant,
		"invariant u packets 1x from":                                api.ErrName,
		"invariant u packets 1x from a":                              api.ErrInvariant,
		"invariant u packets 1x from a,":                             api.ErrName,
		"invariant u packets 1x from a,b":                            api.ErrInvariant,
		"invariant u packets 1x from a,b,":                           api.ErrName,
		"invariant u packets 1x from hops":                           api.ErrInvariant,
		"invariant u packets 1x from a hops":                         api.ErrNumber,
		"invariant u packets 1x from a hops 3":                       api.ErrInvariant,
		"invariant u packets 1x from a hops 3 count":                 api.ErrInvariant,
		"invariant u packets 1x from a hops 3 count ==":              api.ErrNumber,
		"invariant u packets 1x from a hops 3 count == 1":            api.ErrInvariant,
		"invariant u packets 1x from a hops 3 count == 1 path":       api.ErrSyntax,
		"invariant u packets 1x from a hops 3 count == 1 path (":     api.ErrSyntax,
		"invariant u packets 1x from a hops 3 count == 1 path a (b":  api.ErrSyntax,
		"invariant u packets 1x from a hops 3 count == 1 path a |":   api.ErrSyntax,
		"invariant u packets 1x from a hops 3 count == 1 path $":     api.ErrSyntax,
		"invariant u packets 1x from a hops 3 count == 1 path (a|$":  api.ErrSyntax,
		"invariant u packets 1x from a hops 3 count == 1 path (()*.": api.ErrSyntax,
	} {
		for _, end := range []string{"", "  ", " \t # path a", "\n", "\n5", "\n" + goodLine} {
			askFault(t, s+end, 1, len(s)+1, want)
			askFault(t, goodLine+"\n\n  "+s+end, 3, len(s)+3, want)
		}
	}
}

// askAt asks for an error at a word that stands in place of W in a line.
func askAt(t *testing.T, line, w string, want api.Errno) {
	t.Helper()
	askLineFault(t, strings.Replace(line, "W", w, 1), strings.Index(line, "W")+1, want)
}

// Each word that must be just this one.
func TestOtherWords(t *testing.T) {
	for line, right := range map[string]string{
		"W u packets 1x from a hops 3 count == 1 path a":         "invariant",
		"invariant u W 1x from a hops 3 count == 1 path a":       "packets",
		"invariant u packets 1x W a hops 3 count == 1 path a":    "from",
		"invariant u packets 1x from a,b W 3 count == 1 path a":  "hops",
		"invariant u packets 1x from a hops 3 W == 1 path a":     "count",
		"invariant u packets 1x from a hops 3 count == 1 W a":    "path",
		"invariant u packets 1x from a hops 3 count == 1 W path": "path",
	} {
		askParse(t, strings.Replace(line, "W", right, 1), parsed(t, strings.Replace(line, "W", right, 1)))
		for _, w := range []string{"invariant", "packets", "from", "hops", "count", "path", "a", "u", "1x", "0", "==", ">=", "(", "|", "*", ".", "->", strings.ToUpper(right), strings.ToUpper(right[:1]) + right[1:], right + "s", right[1:], "-" + right, right + "-", "_"} {
			if w != right {
				askAt(t, line, w, api.ErrInvariant)
			}
		}
	}
	// Where a list goes on, a comma is right.
	askAt(t, "invariant W u", ",", api.ErrName)
	askAt(t, "invariant uW packets", ",", api.ErrInvariant)
	askAt(t, "invariant u packets 1xW0", ",", api.ErrInvariant)
	askAt(t, "invariant u packets 1x from a hopsW3", ",", api.ErrNumber)
	askAt(t, "invariant u packets 1x from a hops 3W4 count", ",", api.ErrInvariant)
	askAt(t, "invariant u packets 1x from a hops 3 count==1W2 path a", ",", api.ErrInvariant)
}

// parsed is the invariant of a line that is right.
func parsed(t *testing.T, s string) api.Invariant {
	t.Helper()
	l, line, col, e := invar.Parse(s)
	if len(l) != 1 || e != api.OK {
		t.Fatalf("Parse(%.80q): %v at %d, %d", s, e, line, col)
	}
	return l[0]
}

func TestNoNames(t *testing.T) {
	for _, w := range noNames() {
		for _, line := range []string{
			"invariant W",
			"invariant W W packets",
			"invariant W packets 1x from a hops 3 count == 1 path a",
			"invariant u packets 1x from W",
			"invariant u packets 1x from W hops 3 count == 1 path a",
			"invariant u packets 1x from a,W",
			"invariant u packets 1x from a,W,b hops 65",
			"invariant u packets 1x from b,a,b, W hops",
		} {
			askAt(t, line, w, api.ErrName)
		}
	}
	askLineFault(t, "invariant u packets 1x from ,a", 29, api.ErrName)
	askLineFault(t, "invariant u packets 1x from a,,b", 31, api.ErrName)
	askLineFault(t, "invariant u packets 1x from a b hops 3", 31, api.ErrInvariant)
	askLineFault(t, "invariant u packets 1x from a|b hops 3", 30, api.ErrInvariant)
}

func TestNoCubes(t *testing.T) {
	for _, w := range []string{"2", "12", "1X", "a", "x1y", "1-", "-", "_", "from", "(", "==", "*", strings.Repeat("x", api.MaxBits+1), strings.Repeat("0", 100000)} {
		askAt(t, "invariant u packets W", w, api.ErrCube)
		askAt(t, "invariant u packets W from a hops 3 count == 1 path a", w, api.ErrCube)
		askAt(t, "invariant u packets W form 7", w, api.ErrCube)
	}
}

func TestNoNumbers(t *testing.T) {
	for w, want := range map[string]api.Errno{
		"x": api.ErrNumber, "03": api.ErrNumber, "00": api.ErrNumber, "-1": api.ErrNumber, "-": api.ErrNumber, "1x": api.ErrNumber, "0x1": api.ErrNumber, "three": api.ErrNumber, "+": api.ErrNumber, "(": api.ErrNumber, "->": api.ErrNumber, ",": api.ErrNumber,
		"2147483648": api.ErrNumber, "4294967299": api.ErrNumber, "18446744073709551617": api.ErrNumber, strings.Repeat("1", 1000): api.ErrNumber, strings.Repeat("0", 1000): api.ErrNumber,
		"65": api.ErrRange, "66": api.ErrRange, "100": api.ErrRange, "1000": api.ErrRange, "2147483647": api.ErrRange,
	} {
		for _, line := range []string{
			"invariant u packets 1x from a hops W",
			"invariant u packets 1x from a hops W count == 1 path a",
			"invariant u packets 1x from a hops W count == W path W",
			"invariant u packets 1x from a hops 3 count == W",
			"invariant u packets 1x from a hops 3 count <= W path a",
			"invariant u packets 1x from a hops 3 count >= W paths )",
		} {
			askAt(t, line, w, want)
		}
	}
	askAt(t, "invariant u packets 1x from a hops 64 count == W path a", "63", api.ErrRange)
	askAt(t, "invariant u packets 1x from a hops 64 count >= W path a", "64", api.ErrRange)
	askAt(t, "invariant u packets 1x from a hops W count >= 63 path", "65", api.ErrRange)
	askAt(t, "invariant u packets 1x from a hops 63 count >= 62 W", "x", api.ErrInvariant)
}

func TestNoCompares(t *testing.T) {
	for _, w := range []string{"=", "<", ">", "->", "=<", "= =", "> =", "< =", "is", "1", "(", ",", "+", "|", "path"} {
		askAt(t, "invariant u packets 1x from a hops 3 count W 1 path a", w, api.ErrInvariant)
		askAt(t, "invariant u packets 1x from a hops 3 count W", w, api.ErrInvariant)
		askAt(t, "invariant u packets 1x from a hops 3 count W 63 paths", w, api.ErrInvariant)
	}
	// Read as == and =, or =, or >.
	askAt(t, "invariant u packets 1x from a hops 3 count ==W 1 path a", "=", api.ErrNumber)
	askAt(t, "invariant u packets 1x from a hops 3 count >=W1 path a", ">", api.ErrNumber)
	askAt(t, "invariant u packets 1x from a hops 3 count <=W1 path a", "==", api.ErrNumber)
}

// The words behind path, with the place of the one at fault.
func TestPathFaults(t *testing.T) {
	const head = "invariant u packets 1x from a hops 3 count == 1 path "
	for s, at := range map[string]int{
		")": 0, "*": 0, "| a": 0, "1": 0, "1x": 0, ", a": 0, "-a": 0, "->": 0, "== a": 0, "+": 0, "?": 0,
		"a )": 2, "a b , c": 4, "a || b": 3, "a | * b": 4, "(*)": 1, "a (|b)": 3, "(a|)": 3, "$ 5": 2, "$$": 1, "$.": 1, "a 5": 2, "a (b) c) d": 7,
		"a\t<= 1": 2, "a path 5": 7, "a*(b)+? ==": 8, "( a": 3, "((a b)": 6, "": 0,
	} {
		col := len(head) + 1 + at
		if s == "" {
			col = len(head)
		}
		askLineFault(t, head+s, col, api.ErrSyntax)
	}
	deep := strings.Repeat("(", 51) + "a" + strings.Repeat(")", 51)
	askLineFault(t, head+deep, len(head)+51, api.ErrDeep)
	askLineFault(t, head+"a(b)|"+deep, len(head)+56, api.ErrDeep)
	askLineFault(t, head+"a (b) | ( "+strings.Repeat("( ", 49)+"( a"+strings.Repeat(")", 51), len(head)+109, api.ErrDeep)
	askLineFault(t, head+strings.Repeat("(", 50)+"()"+strings.Repeat(")", 50), len(head)+51, api.ErrDeep)
	askLineFault(t, head+strings.Repeat("(", 100000)+"a"+strings.Repeat(")", 100000), len(head)+51, api.ErrDeep)
	// What is too great as a whole is told at the first word behind path: that is the number 0.
	askLineFault(t, head+"a"+strings.Repeat(" a", api.MaxRegex-1), len(head)+1, api.ErrMany)
	askLineFault(t, head+"  a"+strings.Repeat("|b", 100000), len(head)+3, api.ErrMany)
	askLineFault(t, head+"(a)"+strings.Repeat("*", api.MaxDeep), len(head)+1, api.ErrDeep)
	askLineFault(t, head+"\t. a"+strings.Repeat("?", api.MaxDeep-1), len(head)+2, api.ErrDeep)
	askLineFault(t, head+"a"+strings.Repeat("*", api.MaxRegex), len(head)+1, api.ErrMany)
}

// A path with one parenthesis more than are read is printed, but not read again.
func TestPathsThatAreNotReadAgain(t *testing.T) {
	for _, open := range []int{51, 52, 60} {
		s, e := invar.Line(routed(nested(open)))
		same(t, "Line", e, api.OK)
		askFault(t, s, 1, nthOpen(s, 51), api.ErrDeep)
	}
	for _, open := range []int{0, 1, 2, 48, 49, 50} {
		s, e := invar.Line(routed(nested(open)))
		same(t, "Line", e, api.OK)
		askParse(t, s, routed(nested(open)))
		same(t, "parentheses", strings.Count(s, "("), open)
	}
}

// nthOpen is the column of the n-th parenthesis that is opened.
func nthOpen(s string, n int) int {
	for i := range len(s) {
		if s[i] == '(' {
			n--
		}
		if n == 0 {
			return i + 1
		}
	}
	return 0
}

func TestTooManyOfIngress(t *testing.T) {
	const head = "invariant u packets 1x from "
	l := names("d", api.MaxDevices+2)
	for range 2 {
		slices.Reverse(l)
		// The place is that of the first name that is too many, whatever stands twice ahead of it and behind it.
		from := head + strings.Join(l[:256], ",") + "," + l[0] + "," + l[255] + ","
		askLineFault(t, from+l[256], len(from)+1, api.ErrMany)
		askLineFault(t, from+l[256]+","+l[257]+" hops 3", len(from)+1, api.ErrMany)
		askLineFault(t, from+l[256]+",5 (", len(from)+1, api.ErrMany)
		askLineFault(t, from+l[256]+" hops 65", len(from)+1, api.ErrMany)
		askLineFault(t, from+"5,"+l[256], len(from)+1, api.ErrName)
		askLineFault(t, from, len(from)+1, api.ErrName)
		askLineFault(t, from+l[1]+" hops 65", len(from)+12, api.ErrRange)
	}
	askLineFault(t, head+strings.Join(names("d", 20000), ","), len(head)+1+256*6, api.ErrMany)
}

func TestTheSameName(t *testing.T) {
	askFault(t, goodLine+"\n"+goodLine, 2, 1, api.ErrSame)
	askFault(t, goodLine+"\n\n # again\n\t "+goodLine+"\n5", 4, 3, api.ErrSame)
	askFault(t, goodLine+"\ninvariant w packets 0 from c hops 0 count==0 path()\ninvariant v packets 0 from c hops 0 count==0 path()", 3, 1, api.ErrSame)
	// Behind all others of its line.
	for s, want := range map[string]api.Errno{
		"invariant v": api.ErrInvariant, "invariant v packets 2": api.ErrCube, "invariant v packets 1 from 5": api.ErrName, "invariant v packets 1 from a hops x": api.ErrNumber,
		"invariant v packets 1 from a hops 65": api.ErrRange, "invariant v packets 1 from a hops 3 count == 1 path )": api.ErrSyntax,
	} {
		l, line, col, e := invar.Parse(goodLine + "\n" + s)
		same(t, "invariants", len(l), 0)
		same(t, "the error of "+s, e, want)
		same(t, "the line", line, 2)
		same(t, "a place behind the first word", col > 1, true)
	}
}

func TestTooManyInvariants(t *testing.T) {
	s := printByWords(several(api.MaxInvariants))
	line := api.MaxInvariants + 1
	askFault(t, s+goodLine, line, 1, api.ErrMany)
	askFault(t, s+"\n \t"+goodLine+" # more\n"+goodLine+"\n5", line+1, 3, api.ErrMany)
	// Behind all others of its line, ahead of those of later ones.
	askFault(t, s+strings.Replace(goodLine, " v ", " v0000 ", 1), line, 1, api.ErrSame)
	askFault(t, s+"  "+strings.Replace(goodLine, " v ", " v0063 ", 1)+"\n5", line, 3, api.ErrSame)
	askFault(t, s+"invariants", line, 1, api.ErrInvariant)
	askFault(t, s+"invariant", line, 10, api.ErrName)
	askFault(t, s+goodLine+" )", line, len(goodLine)+2, api.ErrSyntax)
	askFault(t, s+strings.Replace(goodLine, "hops 3", "hops 65", 1), line, 38, api.ErrRange)
	askFault(t, s+strings.Repeat(goodLine+"\n", 1000), line, 1, api.ErrMany)
	askFault(t, s+goodLine+"\n"+goodLine, line, 1, api.ErrMany)
}

// The first line with a fault is told, whichever faults later ones have; in a line the leftmost.
func TestTheFirstFaultIsFirst(t *testing.T) {
	faults := []struct {
		line string
		col  int
		err  api.Errno
	}{
		{"invariants", 1, api.ErrInvariant}, {"invariant 5 packet 2", 11, api.ErrName}, {"invariant u packet 2 form 5", 13, api.ErrInvariant}, {"invariant u packets 2 form", 21, api.ErrCube},
		{"invariant u packets 1 from 5 hops x", 28, api.ErrName}, {"invariant u packets 1 from a hops x counts", 35, api.ErrNumber}, {"invariant u packets 1 from a hops 65 counts", 35, api.ErrRange},
		{"invariant u packets 1 from a hops 1 count = 63", 43, api.ErrInvariant}, {"invariant u packets 1 from a hops 1 count==63 paths", 44, api.ErrRange}, {"invariant u packets 1 from a hops 1 count==62 path )", 52, api.ErrSyntax},
		{strings.Replace(goodLine, " v ", " first ", 1), 1, api.ErrSame},
	}
	first := strings.Replace(goodLine, " v ", " first ", 1) + "\n"
	for _, f := range faults {
		for _, g := range faults {
			askFault(t, first+f.line+"\n"+g.line, 2, f.col, f.err)
			askFault(t, first+goodLine+"\n"+f.line+"\n"+g.line, 3, f.col, f.err)
		}
	}
}

// Nothing is kept, and nothing that is handed in is changed, not even behind a list's end.

func TestNothingIsChanged(t *testing.T) {
	spare := func() api.Invariant {
		v := deep(good())
		v.Ingress = append(v.Ingress, "spare")[:2]
		v.Path.Kids = append(v.Path.Kids, device("spare"))[:3]
		v.Path.Kids[1].Kids = append(v.Path.Kids[1].Kids, device("spare"))[:1]
		return v
	}
	whole := func(v api.Invariant) string {
		long := v
		long.Ingress, long.Path.Kids = v.Ingress[:3], v.Path.Kids[:4]
		return told(v) + told(long) + toldPath(v.Path.Kids[1].Kids[:2][1])
	}
	l := append(make([]api.Invariant, 0, 3), spare(), spare(), named("spare"))
	l[1].Name = "w"
	x := net(2, "a", "b", "spare")
	x.Devices = x.Devices[:2]
	want := []string{whole(l[0]), whole(l[1]), told(l[2])}
	for range 3 {
		askMay(t, "spare", l[0], api.OK)
		askCheck(t, "spare", l[0], x, api.OK)
		askSame(t, "spare", l[0], good(), true)
		if s, _, e := invar.Print(l[:2]...); e != api.OK || s == "" {
			t.Errorf("Print = %q, %v", s, e)
		}
		askNoPrint(t, "three", 2, api.ErrSame, l[0], l[1], l[0])
		same(t, "the first", whole(l[0]), want[0])
		same(t, "the second", whole(l[1]), want[1])
		same(t, "what stands behind them", told(l[2]), want[2])
		same(t, "the topology", x.Devices[:3][2].Name, "spare")
	}
}

// spoilPath writes over all lists of an expression, and behind their ends.
func spoilPath(r api.Regex) {
	l := r.Kids[:cap(r.Kids)]
	for i, k := range l {
		spoilPath(k)
		l[i] = device("spoilt")
	}
}

// spoil writes over all lists of an invariant, and behind their ends.
func spoil(v api.Invariant) {
	l := v.Ingress[:cap(v.Ingress)]
	for i := range l {
		l[i] = "spoilt"
	}
	spoilPath(v.Path)
}

func TestWhatIsToldIsOnesOwn(t *testing.T) {
	const text = goodLine + "\ninvariant w packets 1x from b,a,c,a hops 3 count==1 path(a|b c)*d\n" + "invariant x packets 1x from a,b hops 3 count>=1 path a.*b"
	first, _, _, _ := invar.Parse(text)
	second, _, _, _ := invar.Parse(text)
	want := told(second...)
	for _, v := range first {
		spoil(v)
	}
	first[0], first[1] = api.Invariant{}, first[2]
	same(t, "the second", told(second...), want)
	third, _, _, _ := invar.Parse(text)
	same(t, "the third", told(third...), want)
	// No two lists of one answer lie in one another.
	for i := range third {
		l, _, _, _ := invar.Parse(text)
		spoil(l[i])
		l[i] = deep(third[i])
		same(t, "all but one", told(l...), want)
		own, _, _, _ := invar.Parse(text)
		from := own[i].Ingress[:cap(own[i].Ingress)]
		for j := range from {
			from[j] = "spoilt"
		}
		same(t, "a Path beside Ingress", toldPath(own[i].Path), toldPath(third[i].Path))
	}
	// What is changed behind a call changes no answer.
	v := deep(good())
	line, _ := invar.Line(v)
	all, _, _ := invar.Print(v)
	spoil(v)
	same(t, "a line", line, goodLine)
	same(t, "a text", all, goodLine+"\n")
	same(t, "two", told(parsed(t, goodLine)), told(good()))
}

// lies tells whether a text's first byte is one of another's, in memory.
func lies(part, whole string) bool {
	at, from := uintptr(unsafe.Pointer(unsafe.StringData(part))), uintptr(unsafe.Pointer(unsafe.StringData(whole)))
	return part != "" && from <= at && at < from+uintptr(len(whole))
}

// What is answered is no piece of a text that was handed in.
func TestNewMemory(t *testing.T) {
	given := strings.Clone("invariant name packets 10x from here,there hops 3 count>=1 path here|$sort\n")
	v := parsed(t, given)
	for _, s := range []string{v.Name, v.Packets, v.Ingress[0], v.Ingress[1], v.Path.Kids[0].Name, v.Path.Kids[1].Name} {
		same(t, "a piece of the text: "+s, lies(s, given), false)
	}
	line, _ := invar.Line(v)
	for _, s := range []string{v.Name, v.Packets, v.Ingress[0], v.Path.Kids[0].Name} {
		same(t, "a piece of the line: "+s, lies(s, line), false)
	}
}
