package invar_test

import (
	"fmt"
	"math/rand"
	"slices"
	"strings"
	"testing"

	"milestone/api"
	"milestone/invar"
)

func same(t *testing.T, what string, got, want any) {
	t.Helper()
	if got != want {
		t.Errorf("%s = %v, want %v", what, got, want)
	}
}

func device(name string) api.Regex { return api.Regex{Op: api.RDevice, Name: name} }

func class(name string) api.Regex { return api.Regex{Op: api.RClass, Name: name} }

func anyOne() api.Regex { return api.Regex{Op: api.RAny} }

func seq(kids ...api.Regex) api.Regex { return api.Regex{Op: api.RSeq, Kids: kids} }

func alt(kids ...api.Regex) api.Regex { return api.Regex{Op: api.RAlt, Kids: kids} }

func star(kid api.Regex) api.Regex { return api.Regex{Op: api.RStar, Kids: []api.Regex{kid}} }

func plus(kid api.Regex) api.Regex { return api.Regex{Op: api.RPlus, Kids: []api.Regex{kid}} }

func opt(kid api.Regex) api.Regex { return api.Regex{Op: api.ROpt, Kids: []api.Regex{kid}} }

// good is an invariant that may be, and goodLine its line.
func good() api.Invariant {
	return api.Invariant{Name: "v", Packets: "1x", Ingress: []string{"a", "b"}, Hops: 3, Compare: api.Least, Count: 1,
		Path: seq(device("a"), star(anyOne()), device("b"))}
}

const goodLine = "invariant v packets 1x from a,b hops 3 count>=1 path a.*b"

// with is the good one, changed.
func with(change func(v *api.Invariant)) api.Invariant {
	v := good()
	change(&v)
	return v
}

// named is the good one with another Name.
func named(name string) api.Invariant { return with(func(v *api.Invariant) { v.Name = name }) }

// routed is the good one with another Path.
func routed(path api.Regex) api.Invariant { return with(func(v *api.Invariant) { v.Path = path }) }

// several are so many, all with unlike Names.
func several(n int) []api.Invariant {
	var l []api.Invariant
	for _, name := range names("v", n) {
		l = append(l, named(name))
	}
	return l
}

// net is a topology of so many bits, with these devices.
func net(width int, devices ...string) api.Topo {
	x := api.Topo{Width: width}
	for _, d := range devices {
		x.Devices = append(x.Devices, api.Device{Name: d})
	}
	return x
}

// names are so many that rise, behind a letter.
func names(letter string, n int) []string {
	var l []string
	for i := range n {
		l = append(l, fmt.Sprintf("%s%04d", letter, i))
	}
	return l
}

// nested is an expression in whose text so many parentheses are open at once.
func nested(open int) api.Regex {
	r := device("a")
	for range open / 2 {
		r = star(seq(device("b"), alt(r, device("c"))))
	}
	if open%2 == 1 {
		r = plus(alt(r, device("d")))
	}
	return r
}

// endless is an expression that lies in itself.
func endless() api.Regex {
	kids := make([]api.Regex, 2)
	kids[0], kids[1] = device("a"), api.Regex{Op: api.RSeq, Kids: kids}
	return kids[1]
}

// ofLength is an invariant whose line has so many bytes, with the one behind it: enough for its other words, and no more than MaxRegex long names.
func ofLength(name string, n int) api.Invariant {
	v := routed(seq())
	v.Name = name
	s, _ := invar.Line(v)
	// A blank stands ahead of each device.
	for left := n - len(strings.TrimSuffix(s, "()")) - 1; left > 0; {
		long := min(left-1, api.MaxName)
		if left-1-long == 1 {
			long--
		}
		v.Path.Kids = append(v.Path.Kids, device(strings.Repeat("d", long)))
		left -= 1 + long
	}
	return v
}

// together are invariants whose lines have so many bytes.
func together(n int) []api.Invariant {
	var l []api.Invariant
	for _, name := range names("v", 20) {
		l = append(l, ofLength(name, n/20))
	}
	l[19] = ofLength(l[19].Name, n/20+n%20)
	return l
}

// toldPath is all fields of all nodes, as a text that can be compared.
func toldPath(r api.Regex) string {
	var s strings.Builder
	fmt.Fprintf(&s, "%d%q", r.Op, r.Name)
	for _, k := range r.Kids {
		s.WriteString("[" + toldPath(k) + "]")
	}
	return s.String()
}

// told are all fields of invariants, as a text that can be compared.
func told(l ...api.Invariant) string {
	var s strings.Builder
	for _, v := range l {
		fmt.Fprintf(&s, "%q %q %q %d %d %d %s;", v.Name, v.Packets, v.Ingress, v.Hops, v.Compare, v.Count, toldPath(v.Path))
	}
	return s.String()
}

// deepPath is an expression of which nothing is shared with another one.
func deepPath(r api.Regex) api.Regex {
	r.Kids = slices.Clone(r.Kids)
	for i, k := range r.Kids {
		r.Kids[i] = deepPath(k)
	}
	return r
}

// deep is an invariant of which nothing is shared with another one.
func deep(v api.Invariant) api.Invariant {
	v.Ingress, v.Path = slices.Clone(v.Ingress), deepPath(v.Path)
	return v
}

// askMay asks Form, Line and Print whether an invariant may be. (Its Name is not z.)
func askMay(t *testing.T, what string, v api.Invariant, want api.Errno) {
	t.Helper()
	if e := invar.Form(v); e != want {
		t.Errorf("%s: Form = %v, want %v", what, e, want)
	}
	if s, e := invar.Line(v); e != want || (s == "") != (want != api.OK) {
		t.Errorf("%s: Line = %.80q, %v, want %v", what, s, e, want)
	}
	if s, at, e := invar.Print(v); e != want || at != 0 || (s == "") != (want != api.OK) {
		t.Errorf("%s: Print = %.80q, %d, %v, want %v", what, s, at, e, want)
	}
	number := 1
	if want == api.OK {
		number = 0
	}
	if s, at, e := invar.Print(named("z"), v); e != want || at != number || (s == "") != (want != api.OK) {
		t.Errorf("%s: Print behind another one = %.80q, %d, %v, want %v", what, s, at, e, want)
	}
}

// askCheck asks whether a topology may have an invariant.
func askCheck(t *testing.T, what string, v api.Invariant, x api.Topo, want api.Errno) {
	t.Helper()
	if e := invar.Check(v, x); e != want {
		t.Errorf("%s: Check = %v, want %v", what, e, want)
	}
}

// askNone asks all calls for the error of an invariant that may not be.
func askNone(t *testing.T, what string, v api.Invariant, want api.Errno) {
	t.Helper()
	askMay(t, what, v, want)
	askCheck(t, what, v, net(2, "a", "b"), want)
}

// askLine asks for an invariant's line, and for the invariant of that line.
func askLine(t *testing.T, v api.Invariant, want string) {
	t.Helper()
	if s, e := invar.Line(v); s != want || e != api.OK {
		t.Errorf("Line(%.200s) = %.200q, %v, want %.200q", told(v), s, e, want)
	}
	askPrint(t, want+"\n", v)
}

// askPrint asks for invariants' text, and for the invariants of that text.
func askPrint(t *testing.T, want string, l ...api.Invariant) {
	t.Helper()
	if s, at, e := invar.Print(l...); s != want || at != 0 || e != api.OK {
		t.Errorf("Print(%.200s) = %.200q, %d, %v, want %.200q", told(l...), s, at, e, want)
	}
	askParse(t, want, l...)
}

// askNoPrint asks for an error with an invariant's number, and that there is no text beside it.
func askNoPrint(t *testing.T, what string, number int, want api.Errno, l ...api.Invariant) {
	t.Helper()
	if s, at, e := invar.Print(l...); s != "" || at != number || e != want {
		t.Errorf("%s: Print = %.80q, %d, %v, want %v with %d", what, s, at, e, want, number)
	}
}

// askParse asks for a text's invariants.
func askParse(t *testing.T, s string, want ...api.Invariant) {
	t.Helper()
	if l, line, col, e := invar.Parse(s); told(l...) != told(want...) || line != 0 || col != 0 || e != api.OK {
		t.Errorf("Parse(%.200q) = %.200s at %d, %d: %v, want %.200s", s, told(l...), line, col, e, told(want...))
	}
}

// askFault asks for an error at its place, and that there are no invariants beside it.
func askFault(t *testing.T, s string, line, col int, want api.Errno) {
	t.Helper()
	if l, gotLine, gotCol, e := invar.Parse(s); len(l) != 0 || gotLine != line || gotCol != col || e != want {
		t.Errorf("Parse(%.200q): %v at %d, %d beside %d, want %v at %d, %d", s, e, gotLine, gotCol, len(l), want, line, col)
	}
}

// askLineFault asks for an error of a line, alone and behind others that are right.
func askLineFault(t *testing.T, s string, col int, want api.Errno) {
	t.Helper()
	askFault(t, s, 1, col, want)
	askFault(t, "# two\n\n"+goodLine+"\ninvariant w packets 0 from c hops 0 count==0 path()\n \t"+s+"\ninvariant", 5, col+2, want)
}

// askSame asks Same both ways round.
func askSame(t *testing.T, what string, a, b api.Invariant, want bool) {
	t.Helper()
	if invar.Same(a, b) != want || invar.Same(b, a) != want {
		t.Errorf("%s: Same is not %v", what, want)
	}
}

// someNames are one or more of a short list, rising.
func someNames(r *rand.Rand) []string {
	l := []string{"A", "B2", "_", "a", "a-", "count", "from", "hops", "invariant", "packets", "path", "x"}
	for len(l) > 1 && r.Intn(5) > 0 {
		i := r.Intn(len(l))
		l = slices.Delete(l, i, i+1)
	}
	return l
}

// someCube is one of at most so many bits.
func someCube(r *rand.Rand, most int) string {
	b := make([]byte, 1+r.Intn(most))
	for i := range b {
		b[i] = "01x"[r.Intn(3)]
	}
	return string(b)
}

// somePath is an expression that may be, at most so deep.
func somePath(r *rand.Rand, most int) api.Regex {
	name := someNames(r)[0]
	if most < 2 || r.Intn(4) == 0 {
		return []api.Regex{device(name), class(name), anyOne(), seq()}[r.Intn(4)]
	}
	op := api.RSeq + api.RegexOp(r.Intn(5))
	if op > api.RAlt {
		return api.Regex{Op: op, Kids: []api.Regex{somePath(r, most-1)}}
	}
	x := api.Regex{Op: op}
	for len(x.Kids) < 2 || r.Intn(3) == 0 {
		k := somePath(r, most-1)
		// One of its own kind, and of an RSeq the empty one, would be read as another one.
		if k.Op != op {
			x.Kids = append(x.Kids, k)
		}
	}
	return x
}

// someInvariant is one that may be.
func someInvariant(r *rand.Rand) api.Invariant {
	return api.Invariant{Name: someNames(r)[0], Packets: someCube(r, api.MaxBits), Ingress: someNames(r), Hops: r.Intn(api.MaxHops + 1),
		Compare: 1 + r.Intn(3), Count: r.Intn(api.MaxCount + 1), Path: somePath(r, 5)}
}

// someInvariants are some that may be, with unlike Names.
func someInvariants(r *rand.Rand) []api.Invariant {
	var l []api.Invariant
	for range r.Intn(4) {
		v := someInvariant(r)
		if !slices.ContainsFunc(l, func(w api.Invariant) bool { return w.Name == v.Name }) {
			l = append(l, v)
		}
	}
	return l
}

// someText is a text of invariants that may be: Ingress in some order and twice, more blanks, remarks.
func someText(r *rand.Rand, l []api.Invariant) string {
	var s strings.Builder
	blank := func() string { return []string{" ", "  ", "\t", " \t "}[r.Intn(4)] }
	for _, v := range l {
		from := slices.Clone(v.Ingress)
		for range r.Intn(3) {
			from = append(from, from[r.Intn(len(from))])
		}
		r.Shuffle(len(from), func(i, j int) { from[i], from[j] = from[j], from[i] })
		w := []string{"invariant", v.Name, "packets", v.Packets, "from", strings.Join(from, []string{",", " , ", ", "}[r.Intn(3)]),
			"hops", fmt.Sprint(v.Hops), "count", []string{"==", "<=", ">="}[v.Compare-1], fmt.Sprint(v.Count), "path"}
		for i, x := range append(w, pathByWords(v.Path)...) {
			if i > 0 || r.Intn(3) == 0 {
				s.WriteString(blank())
			}
			s.WriteString(x)
		}
		s.WriteString([]string{"\n", " \n\n", "# path b\n", "\n\t# invariant\n"}[r.Intn(4)])
	}
	return s.String()
}
