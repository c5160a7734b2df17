package invar_test

import (
	"fmt"
	"slices"
	"strings"
	"testing"

	"milestone/api"
	"milestone/invar"
)

// P12.1

func TestForm(t *testing.T) {
	long := strings.Repeat("n", api.MaxName)
	for what, change := range map[string]func(v *api.Invariant){
		"as it is":             func(v *api.Invariant) {},
		"a long name":          func(v *api.Invariant) { v.Name = long },
		"a name with all":      func(v *api.Invariant) { v.Name = "_aZ09-" },
		"the name of a word":   func(v *api.Invariant) { v.Name = "invariant" },
		"one bit":              func(v *api.Invariant) { v.Packets = "x" },
		"all bits":             func(v *api.Invariant) { v.Packets = strings.Repeat("10x1", api.MaxBits/4) },
		"one of Ingress":       func(v *api.Invariant) { v.Ingress = []string{"a"} },
		"a long one":           func(v *api.Invariant) { v.Ingress = []string{long} },
		"MaxDevices":           func(v *api.Invariant) { v.Ingress = names("d", api.MaxDevices) },
		"a beginning ahead":    func(v *api.Invariant) { v.Ingress = []string{"B", "_", "a", "a-", "a0", "aa"} },
		"no hops":              func(v *api.Invariant) { v.Hops = 0 },
		"MaxHops":              func(v *api.Invariant) { v.Hops = api.MaxHops },
		"equal":                func(v *api.Invariant) { v.Compare = api.Equal },
		"most":                 func(v *api.Invariant) { v.Compare = api.Most },
		"least":                func(v *api.Invariant) { v.Compare = api.Least },
		"no copies":            func(v *api.Invariant) { v.Count = 0 },
		"MaxCount":             func(v *api.Invariant) { v.Count = api.MaxCount },
		"the empty path":       func(v *api.Invariant) { v.Path = seq() },
		"a Path with all":      func(v *api.Invariant) { v.Path = alt(seq(device("a"), opt(class("b"))), plus(star(anyOne()))) },
		"MaxRegex nodes":       func(v *api.Invariant) { v.Path = seq(slices.Repeat([]api.Regex{device(long)}, api.MaxRegex-1)...) },
		"50 parentheses":       func(v *api.Invariant) { v.Path = nested(50) },
		"51 parentheses":       func(v *api.Invariant) { v.Path = nested(51) },
		"Kids that are shared": func(v *api.Invariant) { v.Path.Kids[0] = v.Path.Kids[2] },
	} {
		askMay(t, what, with(change), api.OK)
	}
	deepest := device("a")
	for range api.MaxDeep - 1 {
		deepest = opt(deepest)
	}
	askMay(t, "MaxDeep", routed(deepest), api.OK)
}

func TestCheck(t *testing.T) {
	askCheck(t, "as it is", good(), net(2, "a", "b"), api.OK)
	askCheck(t, "among others", good(), net(2, "A", "a", "aa", "b", "c"), api.OK)
	askCheck(t, "one ingress", with(func(v *api.Invariant) { v.Ingress = []string{"b"} }), net(2, "a", "b"), api.OK)
	askCheck(t, "no device in Path", routed(star(anyOne())), net(2, "a", "b"), api.OK)
	askCheck(t, "the empty path", routed(seq()), net(2, "a", "b"), api.OK)
	// Classes are not devices: none of them need be there.
	askCheck(t, "a class that nobody has", routed(class("z")), net(2, "a", "b"), api.OK)
	askCheck(t, "a class and a device", routed(seq(class("z"), device("b"), class("a"))), net(2, "a", "b"), api.OK)
	for w := 1; w <= api.MaxBits; w++ {
		v := with(func(v *api.Invariant) { v.Packets = strings.Repeat("x", w) })
		askCheck(t, "a width", v, net(w, "a", "b"), api.OK)
	}
	all := names("d", api.MaxDevices)
	v := with(func(v *api.Invariant) { v.Ingress, v.Path = all, api.Regex{Op: api.RAlt} })
	for _, d := range all {
		v.Path.Kids = append(v.Path.Kids, device(d))
	}
	askCheck(t, "all devices", v, net(2, all...), api.OK)
	// What joins the devices plays no part.
	x := net(2, "a", "b")
	x.Devices[0].Ports, x.Devices[1].Ports, x.Links = []string{"p"}, []string{"p"}, []api.Link{{A: 0, PortA: "p", B: 1, PortB: "p"}}
	askCheck(t, "with a link", good(), x, api.OK)
}

// P12.2

func TestLine(t *testing.T) {
	askLine(t, good(), goodLine)
	long := strings.Repeat("n", api.MaxName)
	for want, change := range map[string]func(v *api.Invariant){
		"invariant " + long + " packets 1x from a,b hops 3 count>=1 path a.*b":                             func(v *api.Invariant) { v.Name = long },
		"invariant v packets " + strings.Repeat("01", 64) + " from a,b hops 3 count>=1 path a.*b":          func(v *api.Invariant) { v.Packets = strings.Repeat("01", 64) },
		"invariant v packets 1x from a hops 3 count>=1 path a.*b":                                          func(v *api.Invariant) { v.Ingress = []string{"a"} },
		"invariant v packets 1x from A-,_,from,hops hops 3 count>=1 path a.*b":                             func(v *api.Invariant) { v.Ingress = []string{"A-", "_", "from", "hops"} },
		"invariant v packets 1x from " + strings.Join(names("d", 256), ",") + " hops 3 count>=1 path a.*b": func(v *api.Invariant) { v.Ingress = names("d", 256) },
		"invariant v packets 1x from a,b hops 0 count>=1 path a.*b":                                        func(v *api.Invariant) { v.Hops = 0 },
		"invariant v packets 1x from a,b hops 64 count>=1 path a.*b":                                       func(v *api.Invariant) { v.Hops = 64 },
		"invariant v packets 1x from a,b hops 3 count==1 path a.*b":                                        func(v *api.Invariant) { v.Compare = api.Equal },
		"invariant v packets 1x from a,b hops 3 count<=1 path a.*b":                                        func(v *api.Invariant) { v.Compare = api.Most },
		"invariant v packets 1x from a,b hops 3 count>=0 path a.*b":                                        func(v *api.Invariant) { v.Count = 0 },
		"invariant v packets 1x from a,b hops 3 count>=62 path a.*b":                                       func(v *api.Invariant) { v.Count = 62 },
		"invariant v packets 1x from a,b hops 3 count>=1 path()":                                           func(v *api.Invariant) { v.Path = seq() },
		"invariant v packets 1x from a,b hops 3 count>=1 path.":                                            func(v *api.Invariant) { v.Path = anyOne() },
		"invariant v packets 1x from a,b hops 3 count>=1 path$core":                                        func(v *api.Invariant) { v.Path = class("core") },
		"invariant v packets 1x from a,b hops 3 count>=1 path path path":                                   func(v *api.Invariant) { v.Path = seq(device("path"), device("path")) },
		"invariant v packets 1x from a,b hops 3 count>=1 path(a|b c)*|$d+?": func(v *api.Invariant) {
			v.Path = alt(star(alt(device("a"), seq(device("b"), device("c")))), opt(plus(class("d"))))
		},
	} {
		askLine(t, with(change), want)
	}
	askLine(t, api.Invariant{Name: "path", Packets: "x", Ingress: []string{"hops"}, Hops: 1, Compare: api.Equal, Path: device("count")},
		"invariant path packets x from hops hops 1 count==0 path count")
}

func TestPrint(t *testing.T) {
	askPrint(t, "")
	askPrint(t, goodLine+"\n", good())
	// In the order in which they are handed in.
	w := api.Invariant{Name: "A", Packets: "0", Ingress: []string{"c"}, Compare: api.Equal, Path: seq()}
	askPrint(t, goodLine+"\ninvariant A packets 0 from c hops 0 count==0 path()\n", good(), w)
	askPrint(t, "invariant A packets 0 from c hops 0 count==0 path()\n"+goodLine+"\n", w, good())
	want := ""
	l := several(api.MaxInvariants)
	for _, v := range l {
		want += strings.Replace(goodLine, " v ", " "+v.Name+" ", 1) + "\n"
	}
	askPrint(t, want, l...)
	// All but the Names may be alike.
	askPrint(t, "invariant V packets 1x from a,b hops 3 count>=1 path a.*b\n"+goodLine+"\n", named("V"), good())
}

func TestPrintOfMaxText(t *testing.T) {
	for n := api.MaxText - 3; n <= api.MaxText; n++ {
		s, at, e := invar.Print(together(n)...)
		if len(s) != n || at != 0 || e != api.OK {
			t.Fatalf("Print has %d bytes of %d, %d, %v", len(s), n, at, e)
		}
	}
	l := together(api.MaxText)
	s, _, _ := invar.Print(l...)
	askParse(t, s, l...)
	askFault(t, s+"\n", 0, 0, api.ErrLong)
	for n := api.MaxText + 1; n <= api.MaxText+3; n++ {
		askNoPrint(t, "more than MaxText", 0, api.ErrLong, together(n)...)
	}
}

// P12.3

func TestParseOfTheDocument(t *testing.T) {
	askParse(t, "invariant v packets 1x from b,a hops 3 count >= 1 path a .* b", good())
	askFault(t, "invariant v packets 1x from a hops 65 count == 1 path a", 1, 36, api.ErrRange)
}

func TestParseBlanks(t *testing.T) {
	for _, s := range []string{
		goodLine, goodLine + "\n", "\n\n" + goodLine, " \t" + goodLine + " \t", goodLine + "# path b", "# first\n" + goodLine + "\n # last\n\n",
		"invariant\tv  packets\t\t1x from a , b hops  3 count >=1 path a . * b", "invariant v packets 1x from a,b hops 3 count>= 1 path(a).*(b)",
	} {
		askParse(t, s, good())
	}
	for _, s := range []string{"", "\n", " \t", "# invariant", "\n\n#%\n\t#", strings.Repeat("\n", api.MaxText), "#" + strings.Repeat("%", api.MaxText-1)} {
		askParse(t, s)
	}
	askParse(t, goodLine+"#"+strings.Repeat("%", api.MaxText-1-len(goodLine)), good())
	askParse(t, strings.Repeat("\n", api.MaxText-len(goodLine))+goodLine, good())
}

func TestParseIngress(t *testing.T) {
	text := func(from string) string { return strings.Replace(goodLine, "a,b", from, 1) }
	for from, want := range map[string]string{
		"a": "a", "a,a": "a", "b,a": "a b", "a,b": "a b", "b,a,b,a,b": "a b", "c,b,a": "a b c", "b,c,a,c": "a b c",
		"a1,a,a-,A,_,a10": "A _ a a- a1 a10", "hops": "hops", "hops,from,path,count": "count from hops path", "from": "from",
	} {
		askParse(t, text(from), with(func(v *api.Invariant) { v.Ingress = strings.Fields(want) }))
	}
	all := names("d", api.MaxDevices)
	most := with(func(v *api.Invariant) { v.Ingress = all })
	askParse(t, text(strings.Join(all, ",")), most)
	turned := slices.Clone(all)
	slices.Reverse(turned)
	askParse(t, text(strings.Join(turned, ",")), most)
	askParse(t, text(strings.Join(append(turned, all...), ",")), most)
	askParse(t, text("a"+strings.Repeat(",a", 100000)), with(func(v *api.Invariant) { v.Ingress = []string{"a"} }))
}

func TestParseNumbers(t *testing.T) {
	for n := range api.MaxHops + 1 {
		askParse(t, strings.Replace(goodLine, "hops 3", fmt.Sprint("hops ", n), 1), with(func(v *api.Invariant) { v.Hops = n }))
	}
	for i, sign := range []string{"==", "<=", ">="} {
		for n := range api.MaxCount + 1 {
			askParse(t, strings.Replace(goodLine, ">=1", fmt.Sprint(sign, n), 1), with(func(v *api.Invariant) { v.Compare, v.Count = i+1, n }))
		}
	}
}

func TestParseNamesAndPackets(t *testing.T) {
	for _, name := range []string{"a", "Z", "_", "_-", "a1", "v-v", "invariant", "packets", "x", "x1", strings.Repeat("n", api.MaxName)} {
		askParse(t, strings.Replace(goodLine, " v ", " "+name+" ", 1), named(name))
	}
	for _, packets := range []string{"0", "1", "x", "01x", strings.Repeat("x", api.MaxBits), strings.Repeat("1", api.MaxBits)} {
		askParse(t, strings.Replace(goodLine, "1x", packets, 1), with(func(v *api.Invariant) { v.Packets = packets }))
	}
}

func TestParsePaths(t *testing.T) {
	a, b := device("a"), device("b")
	for path, want := range map[string]api.Regex{
		"a": a, "$a": class("a"), ".": anyOne(), "()": seq(), "a b": seq(a, b), "a|b": alt(a, b), "a*": star(a), "a+": plus(a), "a?": opt(a),
		"(a)": a, "((a b))": seq(a, b), "a(b a)b": seq(a, b, a, b), "(a|b)|a": alt(a, b, a), "a()b": seq(a, b), "()|a": alt(seq(), a), "(a|b)*": star(alt(a, b)),
		"a|b a*": alt(a, seq(b, star(a))), "path": device("path"), "path path": seq(device("path"), device("path")),
		"hops|from*": alt(device("hops"), star(device("from"))), "a*+?": opt(plus(star(a))),
		strings.Repeat("(", 50) + "a" + strings.Repeat(")", 50):   a,
		strings.Repeat("(a|", 50) + "b" + strings.Repeat(")", 50): alt(append(slices.Repeat([]api.Regex{a}, 50), b)...),
		"a" + strings.Repeat(" a", api.MaxRegex-2):                seq(slices.Repeat([]api.Regex{a}, api.MaxRegex-1)...),
		"a" + strings.Repeat("()", 100000):                        a,
	} {
		askParse(t, strings.TrimSuffix(goodLine, "a.*b")+path, routed(want))
	}
	askLine(t, routed(nested(49)), strings.TrimSuffix(goodLine, " a.*b")+strings.Join(pathByWords(nested(49)), ""))
	askParse(t, goodLine+strings.Repeat("*", api.MaxDeep-3), routed(seq(device("a"), star(anyOne()), repeated(device("b"), api.MaxDeep-3))))
}

// repeated is an expression under so many stars.
func repeated(r api.Regex, n int) api.Regex {
	for range n {
		r = star(r)
	}
	return r
}

func TestParseSeveral(t *testing.T) {
	w := api.Invariant{Name: "A", Packets: "0", Ingress: []string{"c"}, Compare: api.Equal, Path: seq()}
	askParse(t, goodLine+"\n# and\n\ninvariant A packets 0 from c hops 0 count == 0 path ( )", good(), w)
	askParse(t, "invariant A packets 0 from c hops 0 count == 0 path ( )\n"+goodLine, w, good())
	l := several(api.MaxInvariants)
	slices.Reverse(l)
	askParse(t, printByWords(l), l...)
	// Names are alike only letter by letter.
	askParse(t, printByWords([]api.Invariant{named("a"), named("A"), named("a-"), named("aa"), named("_a")}), named("a"), named("A"), named("a-"), named("aa"), named("_a"))
}

// P12.4

func TestSame(t *testing.T) {
	askSame(t, "itself", good(), good(), true)
	askSame(t, "zero", api.Invariant{}, api.Invariant{}, true)
	askSame(t, "nil and empty", api.Invariant{Name: "a"}, api.Invariant{Name: "a", Ingress: []string{}, Path: api.Regex{Kids: []api.Regex{}}}, true)
	for what, change := range map[string]func(v *api.Invariant){
		"the Name":             func(v *api.Invariant) { v.Name = "V" },
		"no Name":              func(v *api.Invariant) { v.Name = "" },
		"Packets":              func(v *api.Invariant) { v.Packets = "x1" },
		"a longer one":         func(v *api.Invariant) { v.Packets = "1xx" },
		"one ingress less":     func(v *api.Invariant) { v.Ingress = v.Ingress[:1] },
		"no ingress":           func(v *api.Invariant) { v.Ingress = nil },
		"one ingress more":     func(v *api.Invariant) { v.Ingress = append(v.Ingress, "c") },
		"an empty one more":    func(v *api.Invariant) { v.Ingress = append(v.Ingress, "") },
		"an ingress":           func(v *api.Invariant) { v.Ingress[1] = "c" },
		"the order of ingress": func(v *api.Invariant) { slices.Reverse(v.Ingress) },
		"Hops":                 func(v *api.Invariant) { v.Hops++ },
		"the Compare":          func(v *api.Invariant) { v.Compare = api.Most },
		"no Compare":           func(v *api.Invariant) { v.Compare = 0 },
		"the Count":            func(v *api.Invariant) { v.Count = -1 },
		"Hops as the Count":    func(v *api.Invariant) { v.Hops, v.Count = v.Count, v.Hops },
		"the Path":             func(v *api.Invariant) { v.Path = device("a") },
		"no Path":              func(v *api.Invariant) { v.Path = api.Regex{} },
		"a kind in Path":       func(v *api.Invariant) { v.Path.Op = api.RAlt },
		"a name in Path":       func(v *api.Invariant) { v.Path.Kids[2].Name = "c" },
		"a Kid's Kid":          func(v *api.Invariant) { v.Path.Kids[1].Kids[0] = device("a") },
		"one Kid less":         func(v *api.Invariant) { v.Path.Kids = v.Path.Kids[:2] },
		"all of it":            func(v *api.Invariant) { *v = api.Invariant{} },
	} {
		v := deep(good())
		change(&v)
		askSame(t, what, good(), v, false)
		askSame(t, what+", twice", v, deep(v), true)
	}
	// Another text of the same paths is another expression.
	askSame(t, "the same paths", routed(plus(device("a"))), routed(seq(device("a"), star(device("a")))), false)
}
